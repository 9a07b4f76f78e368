/-
  Plain mathematics of chapter 8: pair lists as parts of the list of all pairs. No program is named here.
-/
import Derived.Test.YtieldehghmikkaaTurnMath
namespace Go.Proofs.Ytieldehghmikkaa
set_option linter.unusedSimpArgs false
set_option linter.unusedVariables false
set_option linter.unnecessarySimpa false
set_option maxRecDepth 100000

def ltP (p q : Nat × Nat) : Prop := p.1 < q.1 ∨ (p.1 = q.1 ∧ p.2 < q.2)
instance (p q : Nat × Nat) : Decidable (ltP p q) := by unfold ltP; exact inferInstance
theorem ltP_trans {p q r : Nat × Nat} (h : ltP p q) (k : ltP q r) : ltP p r := by unfold ltP at *; omega
theorem ltP_irrefl (p : Nat × Nat) : ¬ ltP p p := by unfold ltP; omega

/-- All pairs of n things, in order. -/
def allP (n : Nat) : List (Nat × Nat) := (List.range n).flatMap fun i => ((List.range n).filter fun k => decide (i < k)).map fun k => (i, k)
theorem mem_allP {n i k : Nat} : (i, k) ∈ allP n ↔ i < k ∧ k < n := by
  unfold allP
  simp only [List.mem_flatMap, List.mem_map, List.mem_filter, List.mem_range, decide_eq_true_eq, Prod.mk.injEq]
  constructor
  · rintro ⟨a, ha, b, ⟨hb, hab⟩, rfl, rfl⟩
    exact ⟨hab, hb⟩
  · rintro ⟨h1, h2⟩
    exact ⟨i, by omega, k, ⟨h2, h1⟩, rfl, rfl⟩
theorem allP_sorted : ∀ n, n < 7 → (allP n).Pairwise ltP := by decide +kernel
theorem allP_length : ∀ n, n < 7 → (allP n).length = n * (n - 1) / 2 := by decide +kernel

theorem sorted_sublist : ∀ (m l : List (Nat × Nat)), m.Pairwise ltP → l.Pairwise ltP → (∀ x ∈ l, x ∈ m) → l.Sublist m := by
  intro m
  induction m with
  | nil =>
    intro l _ _ h
    cases l with
    | nil => exact List.Sublist.slnil
    | cons b l => exact absurd (h b (by simp)) (by simp)
  | cons a m ih =>
    intro l hm hl h
    obtain ⟨ha, hm'⟩ := List.pairwise_cons.1 hm
    cases l with
    | nil => exact List.nil_sublist _
    | cons b l =>
      obtain ⟨hb, hl'⟩ := List.pairwise_cons.1 hl
      by_cases e : b = a
      · subst e
        refine List.Sublist.cons_cons _ (ih l hm' hl' fun x hx => ?_)
        rcases List.mem_cons.1 (h x (by simp [hx])) with h1 | h1
        · have := hb x hx
          rw [h1] at this
          exact absurd this (ltP_irrefl _)
        · exact h1
      · have hbm : b ∈ m := (List.mem_cons.1 (h b (by simp))).resolve_left e
        refine List.Sublist.cons _ (ih (b :: l) hm' hl fun x hx => ?_)
        rcases List.mem_cons.1 (h x hx) with h1 | h1
        · exfalso
          rcases List.mem_cons.1 hx with h2 | h2
          · exact e (h2.symm.trans h1)
          · have h3 := ltP_trans (ha b hbm) (hb x h2)
            rw [h1] at h3
            exact ltP_irrefl _ h3
        · exact h1

/-- All parts of a list, in its order. -/
def subl {α : Type} : List α → List (List α)
  | [] => [[]]
  | a :: l => subl l ++ (subl l).map (a :: ·)
theorem mem_subl {α : Type} : ∀ {L l : List α}, L.Sublist l → L ∈ subl l := by
  intro L l h
  induction h with
  | slnil => simp [subl]
  | cons a _ ih => exact List.mem_append.2 (.inl ih)
  | cons_cons a _ ih => exact List.mem_append.2 (.inr (List.mem_map.2 ⟨_, ih, rfl⟩))

/-- A pair as the program tells it. -/
def encP (p : Nat × Nat) : List Int := [(p.1 : Int), (p.2 : Int)]
theorem enc0 (p : Nat × Nat) : (encP p).getD 0 0 = (p.1 : Int) := rfl
theorem enc1 (p : Nat × Nat) : (encP p).getD 1 0 = (p.2 : Int) := rfl
theorem encLen (p : Nat × Nat) : (encP p).length = 2 := rfl
def encPs (L : List (Nat × Nat)) : List (List Int) := L.map encP
theorem encPs_length (L : List (Nat × Nat)) : (encPs L).length = L.length := by simp [encPs]
theorem encPs_getD (L : List (Nat × Nat)) {x : Nat} (h : x < L.length) : (encPs L).getD x [] = encP (L.getD x (0, 0)) := by simp [encPs, List.getD, h]
theorem encP_inj {p q : Nat × Nat} (h : encP p = encP q) : p = q := by
  obtain ⟨a, b⟩ := p
  obtain ⟨c, d⟩ := q
  simp only [encP, List.cons.injEq, and_true] at h
  rw [Prod.mk.injEq]
  omega
theorem encPs_inj {L M : List (Nat × Nat)} (h : encPs L = encPs M) : L = M := by
  induction L generalizing M with
  | nil => cases M with
    | nil => rfl
    | cons q M => simp [encPs] at h
  | cons p L ih => cases M with
    | nil => simp [encPs] at h
    | cons q M =>
      simp only [encPs, List.map_cons, List.cons.injEq] at h
      rw [encP_inj h.1, ih h.2]

/-- A pair of things out of n; one pair ahead of another one. -/
def okPair (n : Int) (e : List Int) : Bool := decide (e.length = 2 ∧ (0 ≤ e.getD 0 0 ∧ e.getD 0 0 ≤ n - 1) ∧ (e.getD 0 0 + 1 ≤ e.getD 1 0 ∧ e.getD 1 0 ≤ n - 1))
def lessI (e f : List Int) : Bool := decide (e.getD 0 0 < f.getD 0 0 ∨ (e.getD 0 0 = f.getD 0 0 ∧ e.getD 1 0 < f.getD 1 0))
/-- The first k entries are a pair list. -/
def pairTo (n : Int) (ps : List (List Int)) : Nat → Bool
  | 0 => true
  | k + 1 => pairTo n ps k && okPair n (ps.getD k []) && (decide (k = 0) || lessI (ps.getD (k - 1) []) (ps.getD k []))
def pairIn (n : Int) (ps : List (List Int)) : Bool := decide (1 ≤ n ∧ n ≤ 6) && pairTo n ps ps.length

theorem pairTo_iff {n : Int} {ps : List (List Int)} : ∀ k, pairTo n ps k = true ↔ ∀ x, x < k → okPair n (ps.getD x []) = true ∧ (0 < x → lessI (ps.getD (x - 1) []) (ps.getD x []) = true) := by
  intro k
  induction k with
  | zero => simp [pairTo]
  | succ k ih =>
    unfold pairTo
    rw [Bool.and_eq_true, Bool.and_eq_true, ih, Bool.or_eq_true, decide_eq_true_eq]
    constructor
    · rintro ⟨⟨h1, h2⟩, h3⟩ x hx
      by_cases e : x = k
      · subst e
        exact ⟨h2, fun h0 => h3.resolve_left (by omega)⟩
      · exact h1 x (by omega)
    · intro h
      refine ⟨⟨fun x hx => h x (by omega), (h k (by omega)).1⟩, ?_⟩
      by_cases e : k = 0
      · exact .inl e
      · exact .inr ((h k (by omega)).2 (by omega))

theorem okPair_dec {n : Int} {e : List Int} (h : okPair n e = true) : e = encP ((e.getD 0 0).toNat, (e.getD 1 0).toNat) ∧ (e.getD 0 0).toNat < (e.getD 1 0).toNat ∧ ((e.getD 1 0).toNat : Int) < n := by
  simp only [okPair, decide_eq_true_eq] at h
  obtain ⟨h0, ⟨h1, h2⟩, h3, h4⟩ := h
  refine ⟨?_, by omega, by omega⟩
  match e, h0 with
  | [a, b], _ =>
    simp only [List.getD_cons_zero, List.getD_cons_succ] at *
    simp only [encP]
    rw [Int.toNat_of_nonneg (by omega), Int.toNat_of_nonneg (by omega)]

/-- A pair list is a part of the list of all pairs. -/
theorem pairIn_sub {n : Int} {ps : List (List Int)} (h : pairIn n ps = true) : ∃ (m : Nat) (L : List (Nat × Nat)), n = (m : Int) ∧ 1 ≤ m ∧ m ≤ 6 ∧ L.Sublist (allP m) ∧ ps = encPs L := by
  simp only [pairIn, Bool.and_eq_true, decide_eq_true_eq] at h
  obtain ⟨⟨h1, h6⟩, hp⟩ := h
  obtain ⟨m, rfl⟩ := Int.eq_ofNat_of_zero_le (show 0 ≤ n by omega)
  have hall := (pairTo_iff ps.length).1 hp
  have hps : ps = encPs (ps.map fun e => ((e.getD 0 0).toNat, (e.getD 1 0).toNat)) := by
    unfold encPs
    rw [List.map_map]
    apply List.ext_getElem (by simp)
    intro i hi _
    have := (okPair_dec (hall i hi).1).1
    simp only [List.getElem_map, Function.comp]
    have e : ps.getD i [] = ps[i] := by simp [List.getD, hi]
    rw [e] at this
    exact this
  refine ⟨m, ps.map fun e => ((e.getD 0 0).toNat, (e.getD 1 0).toNat), rfl, by omega, by omega, ?_, hps⟩
  refine sorted_sublist _ _ (allP_sorted m (by omega)) ?_ ?_
  · have adj : ∀ i j, i < j → j < ps.length → ltP (((ps.getD i []).getD 0 0).toNat, ((ps.getD i []).getD 1 0).toNat) (((ps.getD j []).getD 0 0).toNat, ((ps.getD j []).getD 1 0).toNat) := by
      intro i j hij
      induction j with
      | zero => omega
      | succ j ih =>
        intro hj
        have h2 := (hall (j + 1) hj).2 (by omega)
        have ok1 := okPair_dec (hall j (by omega)).1
        have ok2 := okPair_dec (hall (j + 1) hj).1
        simp only [Nat.add_sub_cancel, lessI, decide_eq_true_eq] at h2
        have h3 : ltP (((ps.getD j []).getD 0 0).toNat, ((ps.getD j []).getD 1 0).toNat) (((ps.getD (j + 1) []).getD 0 0).toNat, ((ps.getD (j + 1) []).getD 1 0).toNat) := by
          have o1 := (hall j (by omega)).1
          have o2 := (hall (j + 1) hj).1
          simp only [okPair, decide_eq_true_eq] at o1 o2
          unfold ltP
          omega
        by_cases e : i = j
        · subst e; exact h3
        · exact ltP_trans (ih (by omega) (by omega)) h3
    rw [List.pairwise_iff_getElem]
    intro i j hi hj hij
    simp only [List.length_map] at hi hj
    simp only [List.getElem_map]
    have := adj i j hij hj
    rw [show ps.getD i [] = ps[i] by simp [List.getD, hi], show ps.getD j [] = ps[j] by simp [List.getD, hj]] at this
    exact this
  · rintro ⟨i, k⟩ hx
    obtain ⟨e, he, hik⟩ := List.mem_map.1 hx
    obtain ⟨j, hj, rfl⟩ := List.mem_iff_getElem.1 he
    have := okPair_dec (hall j hj).1
    rw [show ps.getD j [] = ps[j] by simp [List.getD, hj]] at this
    simp only [Prod.mk.injEq] at hik
    obtain ⟨rfl, rfl⟩ := hik
    exact mem_allP.2 ⟨this.2.1, by omega⟩

theorem pairIn_of {m : Nat} {L : List (Nat × Nat)} (h1 : 1 ≤ m) (h6 : m ≤ 6) (hs : L.Sublist (allP m)) : pairIn (m : Int) (encPs L) = true := by
  simp only [pairIn, Bool.and_eq_true, decide_eq_true_eq]
  refine ⟨by omega, (pairTo_iff _).2 fun x hx => ?_⟩
  rw [encPs_length] at hx
  have hp : ∀ y, y < L.length → (L.getD y (0, 0)).1 < (L.getD y (0, 0)).2 ∧ (L.getD y (0, 0)).2 < m := fun y hy => by
    have hm : L.getD y (0, 0) ∈ L := by simp [List.getD, hy]
    exact mem_allP.1 (hs.subset hm)
  rw [encPs_getD L hx]
  have h2 := hp x hx
  refine ⟨?_, fun h0 => ?_⟩
  · refine decide_eq_true ⟨rfl, ?_⟩
    rw [enc0, enc1]
    omega
  · rw [encPs_getD L (by omega)]
    have hw := (allP_sorted m (by omega)).sublist hs
    have := (List.pairwise_iff_getElem.1 hw) (x - 1) x (by omega) hx (by omega)
    rw [show L[x - 1]'(by omega) = L.getD (x - 1) (0, 0) by simp [List.getD, show x - 1 < L.length by omega], show L[x] = L.getD x (0, 0) by simp [List.getD, hx]] at this
    refine decide_eq_true ?_
    rw [enc0, enc0, enc1, enc1]
    unfold ltP at this
    omega

theorem pairIn_iff {n : Int} {ps : List (List Int)} : pairIn n ps = true ↔ ∃ (m : Nat) (L : List (Nat × Nat)), n = (m : Int) ∧ 1 ≤ m ∧ m ≤ 6 ∧ L.Sublist (allP m) ∧ ps = encPs L :=
  ⟨pairIn_sub, fun ⟨m, L, e1, h1, h6, hs, e2⟩ => by rw [e1, e2]; exact pairIn_of h1 h6 hs⟩

/-! ### what the functions answer -/

/-- The pairs of things that a list has alike. -/
def ofP (xs : List Int) : List (Nat × Nat) := (allP xs.length).filter fun p => xs.getD p.1 0 == xs.getD p.2 0
/-- All others. -/
def otherP (n : Nat) (L : List (Nat × Nat)) : List (Nat × Nat) := (allP n).filter fun p => !L.contains p
/-- Both things of a pair get the lesser label. -/
def labStep (f : List Int) (p : Nat × Nat) : List Int := (f.set p.1 (min (f.getD p.1 0) (f.getD p.2 0))).set p.2 (min (f.getD p.1 0) (f.getD p.2 0))
def labTo (n : Nat) (L : List (Nat × Nat)) : Nat → List Int
  | 0 => iota 0 n
  | t + 1 => L.foldl labStep (labTo n L t)
/-- The blocks by pairs. -/
def partP (n : Nat) (L : List (Nat × Nat)) : List Int := kOut (labTo n L n)
def wholeP (n : Nat) (L : List (Nat × Nat)) : Bool := (ofP (partP n L)).length == L.length
/-- How many pairs are in just one of both. -/
def costP (xs : List Int) (L : List (Nat × Nat)) : Int := ((ofP xs).length : Int) + (L.map fun p => if xs.getD p.1 0 == xs.getD p.2 0 then (-1 : Int) else 1).sum
def bestIn (L : List (Nat × Nat)) : List Int → List (List Int) → List Int
  | b, [] => b
  | b, x :: l => bestIn L (if costP x L < costP b L then x else b) l
/-- Three things have just two pairs. -/
def twoP (L : List (Nat × Nat)) (t : Nat × Nat × Nat) : Bool := (if L.contains (t.1, t.2.1) then 1 else 0) + (if L.contains (t.1, t.2.2) then 1 else 0) + (if L.contains (t.2.1, t.2.2) then 1 else 0) == (2 : Nat)
def tripP (n : Nat) : List (Nat × Nat × Nat) := (allP n).flatMap fun p => ((List.range n).filter fun c => decide (p.2 < c)).map fun c => (p.1, p.2, c)
def threeP (n : Nat) (L : List (Nat × Nat)) : Nat := (tripP n).countP (twoP L)

theorem otherP_sub (n : Nat) (L : List (Nat × Nat)) : (otherP n L).Sublist (allP n) := List.filter_sublist
theorem ofP_sub (xs : List Int) : (ofP xs).Sublist (allP xs.length) := List.filter_sublist

/-- The pairs are pairs of things out of n. -/
def InN (n : Nat) (L : List (Nat × Nat)) : Prop := ∀ p ∈ L, p.1 < n ∧ p.2 < n
theorem inN_of_sub {n : Nat} {L : List (Nat × Nat)} (h : L.Sublist (allP n)) : InN n L := fun p hp => by
  have := mem_allP.1 (show (p.1, p.2) ∈ allP n from h.subset hp)
  omega

end Go.Proofs.Ytieldehghmikkaa
