/-
  Facts on pair lists: others, costs, the best partition. No program is named here.
-/
import Derived.Test.YtieldehghmikkaaPairMath
namespace Go.Proofs.Ytieldehghmikkaa
set_option linter.unusedSimpArgs false
set_option linter.unusedVariables false
set_option maxRecDepth 100000

theorem sorted_nodup {l : List (Nat × Nat)} (h : l.Pairwise ltP) : l.Nodup := h.imp fun {a b} hab e => by rw [e] at hab; exact ltP_irrefl _ hab

theorem sub_filter : ∀ {L l : List (Nat × Nat)}, L.Sublist l → l.Nodup → l.filter (fun p => L.contains p) = L := by
  intro L l h
  induction h with
  | slnil => intro _; rfl
  | @cons L l a h ih =>
    intro hn
    obtain ⟨ha, hn'⟩ := List.nodup_cons.1 hn
    have hc : L.contains a = false := by
      rw [Bool.eq_false_iff]
      intro hc
      exact ha (h.subset (by simpa using hc))
    rw [List.filter_cons, hc]
    simp only [Bool.false_eq_true, if_false]
    exact ih hn'
  | @cons_cons L l a h ih =>
    intro hn
    obtain ⟨ha, hn'⟩ := List.nodup_cons.1 hn
    rw [List.filter_cons]
    simp only [List.contains_cons, BEq.rfl, Bool.true_or, if_true]
    congr 1
    have e := ih hn'
    refine Eq.trans (List.filter_congr fun p hp => ?_) e
    have hne : (p == a) = false := by
      rw [Bool.eq_false_iff]
      intro hc
      have := eq_of_beq hc
      subst this
      exact ha hp
    rw [hne, Bool.false_or]

theorem filter_len (f : Nat × Nat → Bool) : ∀ l : List (Nat × Nat), (l.filter fun p => !f p).length + (l.filter f).length = l.length := by
  intro l
  induction l with
  | nil => rfl
  | cons a l ih =>
    rw [List.filter_cons, List.filter_cons]
    cases f a <;> simp <;> omega

theorem other_len {n : Nat} {L : List (Nat × Nat)} (hn : n < 7) (h : L.Sublist (allP n)) : (otherP n L).length + L.length = n * (n - 1) / 2 := by
  have h1 := filter_len (fun p => L.contains p) (allP n)
  rw [sub_filter h (sorted_nodup (allP_sorted n hn)), allP_length n hn] at h1
  exact h1
theorem other_mem {n : Nat} {L : List (Nat × Nat)} {p : Nat × Nat} (hp : p ∈ allP n) : (otherP n L).contains p = !L.contains p := by
  rw [Bool.eq_iff_iff]
  simp [otherP, hp]
theorem other_other {n : Nat} {L : List (Nat × Nat)} (hn : n < 7) (h : L.Sublist (allP n)) : otherP n (otherP n L) = L := by
  have e : otherP n (otherP n L) = (allP n).filter fun p => L.contains p := by
    refine List.filter_congr fun p hp => ?_
    rw [other_mem hp, Bool.not_not]
  rw [e, sub_filter h (sorted_nodup (allP_sorted n hn))]

/-- Is a pair in just one of both? -/
def outP (xs : List Int) (L : List (Nat × Nat)) (p : Nat × Nat) : Bool := (xs.getD p.1 0 == xs.getD p.2 0) != L.contains p

theorem cost_aux (xs : List Int) (f : Nat × Nat → Bool) : ∀ l : List (Nat × Nat),
    ((l.filter fun p => xs.getD p.1 0 == xs.getD p.2 0).length : Int) + ((l.filter f).map fun p => if xs.getD p.1 0 == xs.getD p.2 0 then (-1 : Int) else 1).sum = (l.countP fun p => (xs.getD p.1 0 == xs.getD p.2 0) != f p : Nat) := by
  intro l
  induction l with
  | nil => rfl
  | cons a l ih =>
    have h1 : (((a :: l).filter fun p => xs.getD p.1 0 == xs.getD p.2 0).length : Int) = ((l.filter fun p => xs.getD p.1 0 == xs.getD p.2 0).length : Int) + if (xs.getD a.1 0 == xs.getD a.2 0) then 1 else 0 := by
      rw [List.filter_cons]
      cases (xs.getD a.1 0 == xs.getD a.2 0) <;> simp
    have h2 : (((a :: l).filter f).map fun p => if xs.getD p.1 0 == xs.getD p.2 0 then (-1 : Int) else 1).sum = ((l.filter f).map fun p => if xs.getD p.1 0 == xs.getD p.2 0 then (-1 : Int) else 1).sum + if f a then (if xs.getD a.1 0 == xs.getD a.2 0 then (-1 : Int) else 1) else 0 := by
      rw [List.filter_cons]
      cases f a
      · simp
      · rw [if_pos rfl, if_pos rfl, List.map_cons, List.sum_cons, Int.add_comm]
    have h3 : (((a :: l).countP fun p => (xs.getD p.1 0 == xs.getD p.2 0) != f p : Nat) : Int) = ((l.countP fun p => (xs.getD p.1 0 == xs.getD p.2 0) != f p : Nat) : Int) + if ((xs.getD a.1 0 == xs.getD a.2 0) != f a) then 1 else 0 := by
      rw [List.countP_cons]
      cases ((xs.getD a.1 0 == xs.getD a.2 0) != f a) <;> simp
    rw [h1, h2, h3, ← ih]
    cases (xs.getD a.1 0 == xs.getD a.2 0) <;> cases f a <;> simp <;> omega

/-- The cost counts the pairs that are in just one of both. -/
theorem cost_count {n : Nat} {L : List (Nat × Nat)} {xs : List Int} (hn : n < 7) (h : L.Sublist (allP n)) (hx : xs.length = n) : costP xs L = ((allP n).countP (outP xs L) : Nat) := by
  have e := cost_aux xs (fun p => L.contains p) (allP n)
  rw [sub_filter h (sorted_nodup (allP_sorted n hn))] at e
  unfold costP ofP
  rw [hx]
  exact e

theorem cost_nonneg {n : Nat} {L : List (Nat × Nat)} {xs : List Int} (hn : n < 7) (h : L.Sublist (allP n)) (hx : xs.length = n) : 0 ≤ costP xs L ∧ costP xs L ≤ 15 := by
  rw [cost_count hn h hx]
  have h1 := List.countP_le_length (p := outP xs L) (l := allP n)
  rw [allP_length n hn] at h1
  have h2 : n * (n - 1) / 2 ≤ 15 := by
    have : n = 0 ∨ n = 1 ∨ n = 2 ∨ n = 3 ∨ n = 4 ∨ n = 5 ∨ n = 6 := by omega
    rcases this with rfl | rfl | rfl | rfl | rfl | rfl | rfl <;> decide
  omega

theorem cost_zero {n : Nat} {L : List (Nat × Nat)} {xs : List Int} (hn : n < 7) (h : L.Sublist (allP n)) (hx : xs.length = n) : costP xs L = 0 ↔ L = ofP xs := by
  rw [cost_count hn h hx]
  have e : ((allP n).countP (outP xs L) : Nat) = 0 ↔ ∀ p ∈ allP n, (xs.getD p.1 0 == xs.getD p.2 0) = L.contains p := by
    rw [List.countP_eq_zero]
    constructor
    · intro hh p hp
      have := hh p hp
      unfold outP at this
      generalize (xs.getD p.1 0 == xs.getD p.2 0) = g at *
      generalize L.contains p = c at *
      revert this
      cases g <;> cases c <;> simp
    · intro hh p hp
      unfold outP
      rw [hh p hp]
      simp
  constructor
  · intro h0
    have h1 := e.1 (by omega)
    rw [← sub_filter h (sorted_nodup (allP_sorted n hn))]
    unfold ofP
    rw [hx]
    exact List.filter_congr fun p hp => (h1 p hp).symm
  · intro h0
    have h1 : ∀ p ∈ allP n, (xs.getD p.1 0 == xs.getD p.2 0) = L.contains p := by
      intro p hp
      rw [h0, Bool.eq_iff_iff]
      simp [ofP, hx, hp]
    have := e.2 h1
    omega

theorem best_mem (L : List (Nat × Nat)) : ∀ (l : List (List Int)) (b : List Int), bestIn L b l ∈ b :: l := by
  intro l
  induction l with
  | nil => intro b; simp [bestIn]
  | cons x l ih =>
    intro b
    unfold bestIn
    split
    · have := ih x; simp at this ⊢; rcases this with h | h
      · exact .inr (.inl h)
      · exact .inr (.inr h)
    · have := ih b; simp at this ⊢; rcases this with h | h
      · exact .inl h
      · exact .inr (.inr h)
theorem best_le (L : List (Nat × Nat)) : ∀ (l : List (List Int)) (b : List Int), ∀ x ∈ b :: l, costP (bestIn L b l) L ≤ costP x L := by
  intro l
  induction l with
  | nil => intro b x hx; simp at hx; subst hx; exact Int.le_refl _
  | cons y l ih =>
    intro b x hx
    unfold bestIn
    split
    · rename_i hlt
      rcases List.mem_cons.1 hx with rfl | hx
      · have := ih y y (by simp); omega
      · exact ih y x hx
    · rename_i hge
      rcases List.mem_cons.1 hx with rfl | hx
      · exact ih _ _ (by simp)
      · rcases List.mem_cons.1 hx with rfl | hx
        · have := ih b b (by simp); omega
        · exact ih b x (by simp [hx])

theorem cost_one {n : Nat} {L : List (Nat × Nat)} (hn : n < 7) (h : L.Sublist (allP n)) : costP (List.replicate n 0) L = (otherP n L).length := by
  rw [cost_count hn h (by simp)]
  congr 1
  unfold otherP
  rw [← List.countP_eq_length_filter]
  refine List.countP_congr fun p hp => ?_
  have hm := mem_allP.1 (show (p.1, p.2) ∈ allP n from hp)
  have e1 : (List.replicate n (0 : Int)).getD p.1 0 = 0 := by simp [List.getD, List.getElem?_replicate, show p.1 < n by omega]
  have e2 : (List.replicate n (0 : Int)).getD p.2 0 = 0 := by simp [List.getD, List.getElem?_replicate, hm.2]
  unfold outP
  rw [e1, e2]
  cases L.contains p <;> simp

theorem cost_single {n : Nat} {L : List (Nat × Nat)} (hn : n < 7) (h : L.Sublist (allP n)) : costP (iota 0 n) L = L.length := by
  have hl : (iota 0 n).length = n := by simp [iota]
  rw [cost_count hn h hl]
  congr 1
  rw [← sub_filter h (sorted_nodup (allP_sorted n hn)), ← List.countP_eq_length_filter]
  rw [sub_filter h (sorted_nodup (allP_sorted n hn))]
  refine List.countP_congr fun p hp => ?_
  have hm := mem_allP.1 (show (p.1, p.2) ∈ allP n from hp)
  have e1 : (iota 0 n).getD p.1 0 = (p.1 : Int) := by simp [iota, List.getD, show p.1 < n by omega]
  have e2 : (iota 0 n).getD p.2 0 = (p.2 : Int) := by simp [iota, List.getD, hm.2]
  unfold outP
  rw [e1, e2]
  have : (((p.1 : Nat) : Int) == (p.2 : Int)) = false := by simp; omega
  rw [this]
  cases L.contains p <;> simp

/-- How many pairs both have. -/
theorem cost_both {n : Nat} {L : List (Nat × Nat)} {xs : List Int} (hn : n < 7) (h : L.Sublist (allP n)) (hx : xs.length = n) :
    costP xs L = (L.length : Int) + (ofP xs).length - 2 * (L.countP fun p => (ofP xs).contains p : Nat) := by
  unfold costP
  have e : ∀ l : List (Nat × Nat), (∀ p ∈ l, p ∈ allP n) → (l.map fun p => if xs.getD p.1 0 == xs.getD p.2 0 then (-1 : Int) else 1).sum = (l.length : Int) - 2 * (l.countP fun p => (ofP xs).contains p : Nat) := by
    intro l
    induction l with
    | nil => intro _; rfl
    | cons a l ih =>
      intro hl
      have h1 := ih fun p hp => hl p (by simp [hp])
      have ha : (ofP xs).contains a = (xs.getD a.1 0 == xs.getD a.2 0) := by
        rw [Bool.eq_iff_iff]
        simp [ofP, hx, hl a (by simp)]
      rw [List.map_cons, List.sum_cons, h1, List.countP_cons, ha, List.length_cons]
      cases (xs.getD a.1 0 == xs.getD a.2 0) <;> simp <;> omega
  rw [e L fun p hp => h.subset hp]
  omega

end Go.Proofs.Ytieldehghmikkaa
