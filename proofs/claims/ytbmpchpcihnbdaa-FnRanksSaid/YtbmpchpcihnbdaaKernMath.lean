/-
  Plain lists: equal numbers numbered alike, from 0 on as they are met first. No program is named here.
-/
import Derived.Test.YtbmpchpcihnbdaaPure
namespace Go.Proofs.Ytbmpchpcihnbdaa
set_option linter.unusedSimpArgs false
set_option linter.unusedVariables false
set_option linter.unnecessarySimpa false

def kstep (s : List Int × List Int × Int) (x : Int) : List Int × List Int × Int :=
  if x ∈ s.1 then (s.1 ++ [x], s.2.1 ++ [s.2.1.getD (s.1.idxOf x) 0], s.2.2) else (s.1 ++ [x], s.2.1 ++ [s.2.2], s.2.2 + 1)
def kfold (f : List Int) : List Int × List Int × Int := f.foldl kstep ([], [], 0)
def kOut (f : List Int) : List Int := (kfold f).2.1
def kNext (f : List Int) : Int := (kfold f).2.2

theorem kfold_snoc (f : List Int) (x : Int) : kfold (f ++ [x]) = kstep (kfold f) x := by simp [kfold, List.foldl_append]

theorem snoc_induction {p : List Int → Prop} (h0 : p []) (h1 : ∀ f x, p f → p (f ++ [x])) : ∀ f, p f := by
  have : ∀ n f, f.length = n → p f := by
    intro n
    induction n with
    | zero => intro f hf; rw [List.eq_nil_of_length_eq_zero hf]; exact h0
    | succ n ih =>
      intro f hf
      rcases List.eq_nil_or_concat f with h | ⟨L, b, h⟩
      · rw [h] at hf; simp at hf
      · subst h
        simp only [List.concat_eq_append] at hf ⊢
        exact h1 _ _ (ih L (by simpa using hf))
  exact fun f => this f.length f rfl

theorem kfold_done : ∀ f, (kfold f).1 = f := by
  refine snoc_induction rfl fun f x ih => ?_
  rw [kfold_snoc]
  unfold kstep
  rw [ih]
  split <;> rfl

theorem kOut_mem {f : List Int} {x : Int} (h : x ∈ f) : kOut (f ++ [x]) = kOut f ++ [(kOut f).getD (f.idxOf x) 0] ∧ kNext (f ++ [x]) = kNext f := by
  unfold kOut kNext
  rw [kfold_snoc]
  unfold kstep
  rw [kfold_done, if_pos h]
  exact ⟨rfl, rfl⟩

theorem kOut_new {f : List Int} {x : Int} (h : x ∉ f) : kOut (f ++ [x]) = kOut f ++ [kNext f] ∧ kNext (f ++ [x]) = kNext f + 1 := by
  unfold kOut kNext
  rw [kfold_snoc]
  unfold kstep
  rw [kfold_done, if_neg h]
  exact ⟨rfl, rfl⟩

theorem kOut_length : ∀ f, (kOut f).length = f.length := by
  refine snoc_induction rfl fun f x ih => ?_
  by_cases h : x ∈ f
  · rw [(kOut_mem h).1]; simp [ih]
  · rw [(kOut_new h).1]; simp [ih]

theorem kNext_bd : ∀ f, 0 ≤ kNext f ∧ kNext f ≤ f.length := by
  refine snoc_induction ⟨Int.le_refl _, Int.le_refl _⟩ fun f x ih => ?_
  by_cases h : x ∈ f
  · rw [(kOut_mem h).2]; simp; omega
  · rw [(kOut_new h).2]; simp; omega

theorem getD_snoc_lt (l : List Int) (x : Int) (j : Nat) (h : j < l.length) : (l ++ [x]).getD j 0 = l.getD j 0 := by
  simp [List.getD, List.getElem?_append_left h]
theorem getD_snoc_eq (l : List Int) (x : Int) : (l ++ [x]).getD l.length 0 = x := by simp [List.getD]

theorem getD_idxOf {f : List Int} {x : Int} (h : x ∈ f) : f.getD (f.idxOf x) 0 = x := by
  have := List.idxOf_lt_length_of_mem h
  simp [List.getD, List.getElem?_eq_getElem this]

theorem mem_of_getD {f : List Int} {x : Int} {j : Nat} (h : j < f.length) (e : f.getD j 0 = x) : x ∈ f := by
  rw [← e]
  simp [List.getD, h]

/-- The numbers are from 0 on and below the next one; equal ones where equal ones were. -/
theorem kOut_inv : ∀ f, (∀ j, j < f.length → 0 ≤ (kOut f).getD j 0 ∧ (kOut f).getD j 0 < kNext f) ∧ (∀ i j, i < f.length → j < f.length → (f.getD i 0 = f.getD j 0 ↔ (kOut f).getD i 0 = (kOut f).getD j 0)) := by
  refine snoc_induction ⟨fun j hj => by simp at hj, fun i j hi => by simp at hi⟩ fun f x ih => ?_
  obtain ⟨ih1, ih2⟩ := ih
  have hlen := kOut_length f
  have hnb := kNext_bd f
  have A : ∀ y j, j < f.length → (f ++ [y]).getD j 0 = f.getD j 0 := fun y j hj => getD_snoc_lt f y j hj
  have A1 : ∀ y, (f ++ [y]).getD f.length 0 = y := fun y => getD_snoc_eq f y
  have K : ∀ y j, j < f.length → (kOut f ++ [y]).getD j 0 = (kOut f).getD j 0 := fun y j hj => getD_snoc_lt _ y j (by omega)
  have last : ∀ y, (kOut f ++ [y]).getD f.length 0 = y := fun y => by rw [← hlen]; exact getD_snoc_eq _ _
  by_cases h : x ∈ f
  · obtain ⟨e1, e2⟩ := kOut_mem h
    have hi := List.idxOf_lt_length_of_mem h
    have hg := getD_idxOf h
    rw [e1, e2]
    constructor
    · intro j hj
      simp at hj
      by_cases hl : j < f.length
      · rw [K _ _ hl]; exact ih1 j hl
      · obtain rfl : j = f.length := by omega
        rw [last]
        exact ih1 _ hi
    · intro i j hi' hj'
      simp at hi' hj'
      by_cases hl : i < f.length <;> by_cases hm : j < f.length
      · rw [A _ _ hl, A _ _ hm, K _ _ hl, K _ _ hm]; exact ih2 i j hl hm
      · obtain rfl : j = f.length := by omega
        rw [A _ _ hl, A1, K _ _ hl, last, ← ih2 i _ hl hi, hg]
      · obtain rfl : i = f.length := by omega
        rw [A _ _ hm, A1, K _ _ hm, last, ← ih2 _ j hi hm, hg]
      · obtain rfl : i = f.length := by omega
        obtain rfl : j = f.length := by omega
        simp
  · obtain ⟨e1, e2⟩ := kOut_new h
    rw [e1, e2]
    constructor
    · intro j hj
      simp at hj
      by_cases hl : j < f.length
      · rw [K _ _ hl]; have := ih1 j hl; omega
      · obtain rfl : j = f.length := by omega
        rw [last]
        omega
    · intro i j hi' hj'
      simp at hi' hj'
      by_cases hl : i < f.length <;> by_cases hm : j < f.length
      · rw [A _ _ hl, A _ _ hm, K _ _ hl, K _ _ hm]; exact ih2 i j hl hm
      · obtain rfl : j = f.length := by omega
        rw [A _ _ hl, A1, K _ _ hl, last]
        have := ih1 i hl
        exact ⟨fun e => absurd (mem_of_getD hl e) h, fun e => by omega⟩
      · obtain rfl : i = f.length := by omega
        rw [A _ _ hm, A1, K _ _ hm, last]
        have := ih1 j hm
        exact ⟨fun e => absurd (mem_of_getD hm e.symm) h, fun e => by omega⟩
      · obtain rfl : i = f.length := by omega
        obtain rfl : j = f.length := by omega
        simp

theorem take_snoc (xs : List Int) (k : Nat) (h : k < xs.length) : xs.take (k + 1) = xs.take k ++ [xs.getD k 0] := by
  rw [List.take_succ_eq_append_getElem h]
  simp [List.getD, h]

/-- Where a number of a list is met first. -/
theorem idxOf_take (xs : List Int) (k : Nat) (h : k < xs.length) : (xs.getD k 0 ∈ xs.take k → xs.idxOf (xs.getD k 0) = (xs.take k).idxOf (xs.getD k 0) ∧ xs.idxOf (xs.getD k 0) < k) ∧ (xs.getD k 0 ∉ xs.take k → xs.idxOf (xs.getD k 0) = k) := by
  have e : xs = xs.take k ++ xs.getD k 0 :: xs.drop (k + 1) := by
    rw [← drop_cons xs k h, List.take_append_drop]
  obtain ⟨x, hx⟩ : ∃ x, x = xs.getD k 0 := ⟨_, rfl⟩
  rw [← hx] at e ⊢
  have hlen : (xs.take k).length = k := by simp; omega
  constructor
  · intro hm
    have h1 : xs.idxOf x = (xs.take k).idxOf x := by
      conv => lhs; rw [e]
      rw [List.idxOf_append, if_pos hm]
    refine ⟨h1, ?_⟩
    rw [h1]
    have := List.idxOf_lt_length_of_mem hm
    omega
  · intro hm
    conv => lhs; rw [e]
    rw [List.idxOf_append, if_neg hm, List.idxOf_cons_self]
    omega

end Go.Proofs.Ytbmpchpcihnbdaa
