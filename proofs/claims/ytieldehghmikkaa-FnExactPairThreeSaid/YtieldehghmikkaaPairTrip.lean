/-
  Sets of three things, one by one; how many have just two pairs, told in two ways. No program is named here.
-/
import Derived.Test.YtieldehghmikkaaPairFacts
namespace Go.Proofs.Ytieldehghmikkaa
set_option linter.unusedSimpArgs false
set_option linter.unusedVariables false
set_option maxRecDepth 100000

def tripsC (a b c : Nat) : List (Nat × Nat × Nat) := ((List.range c).filter fun j => decide (b < j)).map fun j => (a, b, j)
def tripsB (n a b : Nat) : List (Nat × Nat × Nat) := ((List.range b).filter fun j => decide (a < j)).flatMap fun j => tripsC a j n
def tripsA (n a : Nat) : List (Nat × Nat × Nat) := (List.range a).flatMap fun i => tripsB n i n

theorem tripsC_start (a b c : Nat) (h : c ≤ b + 1) : tripsC a b c = [] := by
  unfold tripsC
  rw [List.map_eq_nil_iff, List.filter_eq_nil_iff]
  intro j hj
  rw [List.mem_range] at hj
  simp
  omega
theorem tripsC_next (a b c : Nat) (h : b < c) : tripsC a b (c + 1) = tripsC a b c ++ [(a, b, c)] := by
  unfold tripsC
  rw [List.range_succ, List.filter_append, List.map_append]
  congr 1
  simp [h]
theorem tripsB_start (n a b : Nat) (h : b ≤ a + 1) : tripsB n a b = [] := by
  unfold tripsB
  have : (List.range b).filter (fun j => decide (a < j)) = [] := by
    rw [List.filter_eq_nil_iff]
    intro j hj
    rw [List.mem_range] at hj
    simp
    omega
  rw [this]
  rfl
theorem tripsB_next (n a b : Nat) (h : a < b) : tripsB n a (b + 1) = tripsB n a b ++ tripsC a b n := by
  unfold tripsB
  rw [List.range_succ, List.filter_append, List.flatMap_append]
  congr 1
  simp [h]
theorem tripsA_next (n a : Nat) : tripsA n (a + 1) = tripsA n a ++ tripsB n a n := by
  unfold tripsA
  rw [List.range_succ, List.flatMap_append]
  simp
theorem tripP_eq (n : Nat) : tripP n = tripsA n n := by
  unfold tripP tripsA tripsB tripsC allP
  rw [List.flatMap_assoc]
  congr 1
  funext i
  rw [List.flatMap_map]
theorem tripsC_len (a b c : Nat) : (tripsC a b c).length ≤ c := by
  unfold tripsC
  rw [List.length_map]
  have := List.length_filter_le (fun j => decide (b < j)) (List.range c)
  rw [List.length_range] at this
  exact this
theorem tripsB_len (n a : Nat) : ∀ b, (tripsB n a b).length ≤ b * n := by
  intro b
  induction b with
  | zero => simp [tripsB]
  | succ b ih =>
    by_cases h : a < b
    · rw [tripsB_next n a b h, List.length_append, Nat.succ_mul]
      have := tripsC_len a b n
      omega
    · rw [tripsB_start n a (b + 1) (by omega)]
      simp
theorem tripsA_len (n : Nat) : ∀ a, (tripsA n a).length ≤ a * (n * n) := by
  intro a
  induction a with
  | zero => simp [tripsA]
  | succ a ih =>
    rw [tripsA_next, List.length_append, Nat.succ_mul]
    have := tripsB_len n a n
    omega

/-- How many of some sets of three have just two pairs. -/
def c3 (L : List (Nat × Nat)) (T : List (Nat × Nat × Nat)) : Nat := T.countP (twoP L)
theorem c3_append (L : List (Nat × Nat)) (T U : List (Nat × Nat × Nat)) : c3 L (T ++ U) = c3 L T + c3 L U := List.countP_append
theorem c3_nil (L : List (Nat × Nat)) : c3 L [] = 0 := rfl
theorem c3_one (L : List (Nat × Nat)) (t : Nat × Nat × Nat) : c3 L [t] = if twoP L t then 1 else 0 := by simp [c3, List.countP_cons]
theorem c3_le (L : List (Nat × Nat)) (T : List (Nat × Nat × Nat)) : c3 L T ≤ T.length := List.countP_le_length
theorem c3_all (n : Nat) (L : List (Nat × Nat)) : c3 L (tripsA n n) = threeP n L := by unfold c3 threeP; rw [tripP_eq]
theorem c3_bd {n a b c : Nat} (hn : n ≤ 8) (ha : a ≤ n) (hb : b ≤ n) (hc : c ≤ n) (L : List (Nat × Nat)) : c3 L (tripsA n a) + c3 L (tripsB n a b) + c3 L (tripsC a b c) ≤ 1000 := by
  have h1 := Nat.le_trans (c3_le L _) (tripsA_len n a)
  have h2 := Nat.le_trans (c3_le L _) (tripsB_len n a b)
  have h3 := Nat.le_trans (c3_le L _) (tripsC_len a b c)
  have k1 : n * n ≤ 64 := Nat.le_trans (Nat.mul_le_mul hn hn) (by decide)
  have k2 : a * (n * n) ≤ 512 := Nat.le_trans (Nat.mul_le_mul (Nat.le_trans ha hn) k1) (by decide)
  have k3 : b * n ≤ 64 := Nat.le_trans (Nat.mul_le_mul (Nat.le_trans hb hn) hn) (by decide)
  omega

/-- A pair is told, one thing or the other first. -/
def adjP (L : List (Nat × Nat)) (i x : Nat) : Bool := L.contains (i, x) || L.contains (x, i)
/-- A pair that is not told, and a third thing that has pairs with both. -/
def missP (L : List (Nat × Nat)) (t : Nat × Nat × Nat) : Nat := if !L.contains (t.1, t.2.1) && (adjP L t.1 t.2.2 && adjP L t.2.1 t.2.2) then 1 else 0
def idxL (n : Nat) : List (Nat × Nat × Nat) := (allP n).flatMap fun p => ((List.range n).filter fun x => x != p.1 && x != p.2).map fun x => (p.1, p.2, x)
def idxR (n : Nat) : List (Nat × Nat × Nat) := (tripP n).flatMap fun t => [(t.1, t.2.1, t.2.2), (t.1, t.2.2, t.2.1), (t.2.1, t.2.2, t.1)]
theorem idx_perm : ∀ n, n < 7 → (idxL n).isPerm (idxR n) = true := by decide +kernel

theorem not_back {n : Nat} {L : List (Nat × Nat)} (h : L.Sublist (allP n)) {i k : Nat} (hik : i ≤ k) : L.contains (k, i) = false := by
  rw [Bool.eq_false_iff]
  intro hc
  have := mem_allP.1 (h.subset (by simpa using hc : (k, i) ∈ L))
  omega

theorem trip_sum {n : Nat} {L : List (Nat × Nat)} (h : L.Sublist (allP n)) : ∀ T : List (Nat × Nat × Nat), (∀ t ∈ T, t.1 < t.2.1 ∧ t.2.1 < t.2.2) →
    ((T.flatMap fun t => [(t.1, t.2.1, t.2.2), (t.1, t.2.2, t.2.1), (t.2.1, t.2.2, t.1)]).map (missP L)).sum = c3 L T := by
  intro T
  induction T with
  | nil => intro _; rfl
  | cons t T ih =>
    intro ht
    obtain ⟨a, b, c⟩ := t
    have h1 := ih fun x hx => ht x (by simp [hx])
    obtain ⟨hab, hbc⟩ := ht (a, b, c) (by simp)
    dsimp only at hab hbc
    have e : c3 L ((a, b, c) :: T) = c3 L [(a, b, c)] + c3 L T := c3_append L [(a, b, c)] T
    rw [e, c3_one, List.flatMap_cons, List.map_append, List.sum_append, h1]
    congr 1
    simp only [List.map_cons, List.map_nil, List.sum_cons, List.sum_nil, missP, adjP, twoP, not_back h (Nat.le_of_lt hab), not_back h (Nat.le_of_lt hbc), not_back h (show a ≤ c by omega), Bool.or_false, Bool.false_or]
    rcases Bool.eq_false_or_eq_true (L.contains (a, b)) with h2 | h2 <;> rcases Bool.eq_false_or_eq_true (L.contains (a, c)) with h3 | h3 <;> rcases Bool.eq_false_or_eq_true (L.contains (b, c)) with h4 | h4 <;> simp only [h2, h3, h4] <;> decide

theorem mem_tripP {n : Nat} {t : Nat × Nat × Nat} (h : t ∈ tripP n) : t.1 < t.2.1 ∧ t.2.1 < t.2.2 ∧ t.2.2 < n := by
  unfold tripP at h
  obtain ⟨⟨i, k⟩, hp, hm⟩ := List.mem_flatMap.1 h
  obtain ⟨c, hc, rfl⟩ := List.mem_map.1 hm
  have := mem_allP.1 hp
  obtain ⟨hc1, hc2⟩ := List.mem_filter.1 hc
  simp at hc1 hc2
  exact ⟨this.1, hc2, hc1⟩

theorem miss_count (L : List (Nat × Nat)) (n i k : Nat) (hi : adjP L i i = false) (hk : adjP L k k = false) :
    (((List.range n).filter fun x => x != i && x != k).map fun x => missP L (i, k, x)).sum = if L.contains (i, k) then 0 else (List.range n).countP fun x => adjP L i x && adjP L k x := by
  generalize List.range n = R
  cases hc : L.contains (i, k)
  · rw [if_neg (by simp)]
    induction R with
    | nil => rfl
    | cons x R ih =>
      rw [List.filter_cons, List.countP_cons, ← ih]
      by_cases e : x = i
      · subst e
        simp [hi]
      · by_cases e2 : x = k
        · subst e2
          simp [hk]
        · have hb : (x != i && x != k) = true := by simp [e, e2]
          rw [if_pos hb, List.map_cons, List.sum_cons]
          simp only [missP, hc, Bool.not_false, Bool.true_and]
          cases adjP L i x <;> cases adjP L k x <;> simp <;> omega
  · rw [if_pos rfl]
    induction R with
    | nil => rfl
    | cons x R ih =>
      rw [List.filter_cons]
      split
      · rw [List.map_cons, List.sum_cons, ih]
        simp only [missP, hc, Bool.not_true, Bool.false_and]
        rfl
      · exact ih

theorem sum_flatMap_map {α β : Type} (f : α → List β) (g : β → Nat) : ∀ l : List α, ((l.flatMap f).map g).sum = (l.map fun a => ((f a).map g).sum).sum := by
  intro l
  induction l with
  | nil => rfl
  | cons a l ih => rw [List.flatMap_cons, List.map_append, List.sum_append, List.map_cons, List.sum_cons, ih]

theorem sum_filter_if {α : Type} (f : α → Bool) (g : α → Nat) : ∀ l : List α, (l.map fun a => if f a then 0 else g a).sum = ((l.filter fun a => !f a).map g).sum := by
  intro l
  induction l with
  | nil => rfl
  | cons a l ih =>
    rw [List.filter_cons, List.map_cons, List.sum_cons, ih]
    cases f a <;> simp

/-- Told by pairs that miss: each set of three is met once. -/
theorem three_by_others {n : Nat} {L : List (Nat × Nat)} (hn : n < 7) (h : L.Sublist (allP n)) :
    ((otherP n L).map fun p => (List.range n).countP fun x => adjP L p.1 x && adjP L p.2 x).sum = threeP n L := by
  have hp := List.isPerm_iff.1 (idx_perm n hn)
  have h1 := (hp.map (missP L)).sum_nat
  unfold idxR at h1
  rw [trip_sum h (tripP n) fun t ht => ⟨(mem_tripP ht).1, (mem_tripP ht).2.1⟩] at h1
  have h2 : c3 L (tripP n) = threeP n L := rfl
  rw [← h2, ← h1]
  unfold idxL
  rw [sum_flatMap_map]
  have hz : ∀ i, adjP L i i = false := fun i => by unfold adjP; rw [not_back h (Nat.le_refl i)]; rfl
  have h3 : ∀ p : Nat × Nat, ((((List.range n).filter fun x => x != p.1 && x != p.2).map fun x => (p.1, p.2, x)).map (missP L)).sum = if L.contains p then 0 else (List.range n).countP fun x => adjP L p.1 x && adjP L p.2 x := fun p => by
    rw [List.map_map]
    exact miss_count L n p.1 p.2 (hz _) (hz _)
  simp only [h3]
  rw [sum_filter_if]
  rfl

end Go.Proofs.Ytieldehghmikkaa
