/-
  Openers and closers: as many, and those of the partition turned. No program is named here.
-/
import Derived.Test.YtipmafplpoadjaaDoorArcIff
import Derived.Test.YtipmafplpoadjaaDoorTurnMath
namespace Go.Proofs.YtipmafplpoadjaaDoor
set_option linter.unusedSimpArgs false
set_option linter.unusedVariables false
set_option linter.unnecessarySimpa false

theorem arcs_nd (xs : List Int) : (arcsOf xs).Pairwise (fun p q => p.1 < q.1 ∧ p.2 ≠ q.2) := arcsFrom_sorted xs 0

theorem ends_perm (xs : List Int) (f : Nat × Nat → Nat) (hn : ((arcsOf xs).map f).Nodup) (hl : ∀ p ∈ arcsOf xs, f p < xs.length) :
    ((List.range xs.length).filter fun t => (arcsOf xs).any fun p => f p == t).Perm ((arcsOf xs).map f) := by
  refine (List.perm_ext_iff_of_nodup (List.nodup_range.filter _) hn).2 (by
    intro t
    simp only [List.mem_filter, List.mem_range, List.any_eq_true, beq_iff_eq, List.mem_map]
    constructor
    · rintro ⟨_, p, hp, e⟩; exact ⟨p, hp, e⟩
    · rintro ⟨p, hp, e⟩; exact ⟨e ▸ hl p hp, p, hp, e⟩)

theorem from_count (xs : List Int) : ((List.range xs.length).filter (fromB (arcsOf xs))).length = (arcsOf xs).length := by
  have := (ends_perm xs (·.1) (List.pairwise_map.2 ((arcs_nd xs).imp fun h e => by have := h.1; omega)) (fun p hp => by have := (arcs_iff xs p).1 hp; omega)).length_eq
  rw [List.length_map] at this
  exact this

theorem to_count (xs : List Int) : ((List.range xs.length).filter (toB (arcsOf xs))).length = (arcsOf xs).length := by
  have := (ends_perm xs (·.2) (List.pairwise_map.2 ((arcs_nd xs).imp fun h => h.2)) (fun p hp => by have := (arcs_iff xs p).1 hp; omega)).length_eq
  rw [List.length_map] at this
  exact this

theorem filter_parts (p q : Nat → Bool) : ∀ l : List Nat, (l.filter fun t => p t && !q t).length + (l.filter fun t => p t && q t).length = (l.filter p).length := by
  intro l
  induction l with
  | nil => rfl
  | cons x l ih => simp only [List.filter_cons]; cases p x <;> cases q x <;> simp <;> omega

/-- There are as many openers as closers. -/
theorem open_close (xs : List Int) : (openTo xs xs.length).length = (closeTo xs xs.length).length := by
  unfold openTo closeTo
  rw [List.length_map, List.length_map]
  have h1 := filter_parts (fromB (arcsOf xs)) (toB (arcsOf xs)) (List.range xs.length)
  have h2 := filter_parts (toB (arcsOf xs)) (fromB (arcsOf xs)) (List.range xs.length)
  have h3 := from_count xs
  have h4 := to_count xs
  have h5 : (List.range xs.length).filter (fun t => fromB (arcsOf xs) t && toB (arcsOf xs) t) = (List.range xs.length).filter (fun t => toB (arcsOf xs) t && fromB (arcsOf xs) t) := List.filter_congr fun t _ => Bool.and_comm _ _
  rw [h5] at h1
  omega

theorem pat_turned (xs : List Int) {i j : Nat} (hi : i < xs.length) (hj : j < xs.length) : (kOut xs.reverse).getD i 0 = (kOut xs.reverse).getD j 0 ↔ xs.getD (xs.length - 1 - i) 0 = xs.getD (xs.length - 1 - j) 0 := by
  rw [← (kOut_inv xs.reverse).2 i j (by simpa using hi) (by simpa using hj), getD_reverse _ _ hi, getD_reverse _ _ hj]

theorem len_turned (xs : List Int) : (kOut xs.reverse).length = xs.length := by rw [kOut_length, List.length_reverse]

theorem from_turned (xs : List Int) {i : Nat} (hi : i < xs.length) : fromB (arcsOf (kOut xs.reverse)) i = toB (arcsOf xs) (xs.length - 1 - i) := by
  rw [Bool.eq_iff_iff, fromB_iff, toB_iff (by omega), len_turned]
  constructor
  · rintro ⟨j, h1, h2, h3⟩
    exact ⟨xs.length - 1 - j, by omega, (pat_turned xs h2 hi).1 h3⟩
  · rintro ⟨j, h1, h3⟩
    exact ⟨xs.length - 1 - j, by omega, by omega, (pat_turned xs (by omega) hi).2 (by rw [show xs.length - 1 - (xs.length - 1 - j) = j by omega]; exact h3)⟩

theorem to_turned (xs : List Int) {i : Nat} (hi : i < xs.length) : toB (arcsOf (kOut xs.reverse)) i = fromB (arcsOf xs) (xs.length - 1 - i) := by
  rw [Bool.eq_iff_iff, toB_iff (by rw [len_turned]; exact hi), fromB_iff]
  constructor
  · rintro ⟨j, h1, h3⟩
    exact ⟨xs.length - 1 - j, by omega, by omega, (pat_turned xs (by omega) hi).1 h3⟩
  · rintro ⟨j, h1, h2, h3⟩
    exact ⟨xs.length - 1 - j, by omega, (pat_turned xs (by omega) hi).2 (by rw [show xs.length - 1 - (xs.length - 1 - j) = j by omega]; exact h3)⟩

theorem range_turned (n : Nat) : List.range n = (List.range n).reverse.map fun t => n - 1 - t := by
  apply List.ext_getElem?
  intro i
  by_cases h : i < n
  · rw [List.getElem?_map, List.getElem?_reverse (by simpa using h)]
    simp [h, show n - 1 - i < n by omega]
    omega
  · rw [List.getElem?_eq_none (by simp; omega), List.getElem?_eq_none (by simp; omega)]

theorem filter_turned (n : Nat) (g : Nat → Bool) : (List.range n).filter (fun t => g (n - 1 - t)) = ((List.range n).filter g).reverse.map fun t => n - 1 - t := by
  rw [range_turned n, List.filter_map, List.filter_reverse]
  have : (List.range n).filter ((fun t => g (n - 1 - t)) ∘ fun t => n - 1 - t) = (List.range n).filter g := List.filter_congr fun t ht => by
    simp at ht
    simp [Function.comp, show n - 1 - (n - 1 - t) = t by omega]
  rw [this, ← range_turned n]

theorem open_turned (xs : List Int) : openTo (kOut xs.reverse) xs.length = (closeTo xs xs.length).reverse.map fun v => (xs.length : Int) - 1 - v := by
  have h : (List.range xs.length).filter (fun t => fromB (arcsOf (kOut xs.reverse)) t && !toB (arcsOf (kOut xs.reverse)) t) = (List.range xs.length).filter (fun t => (fun u => toB (arcsOf xs) u && !fromB (arcsOf xs) u) (xs.length - 1 - t)) :=
    List.filter_congr fun t ht => by simp at ht; rw [from_turned xs ht, to_turned xs ht]
  unfold openTo closeTo
  rw [h, filter_turned xs.length (fun u => toB (arcsOf xs) u && !fromB (arcsOf xs) u), List.map_map, ← List.map_reverse, List.map_map]
  refine List.map_congr_left fun t ht => ?_
  simp at ht
  simp [Function.comp]
  omega

theorem close_turned (xs : List Int) : closeTo (kOut xs.reverse) xs.length = (openTo xs xs.length).reverse.map fun v => (xs.length : Int) - 1 - v := by
  have h : (List.range xs.length).filter (fun t => toB (arcsOf (kOut xs.reverse)) t && !fromB (arcsOf (kOut xs.reverse)) t) = (List.range xs.length).filter (fun t => (fun u => fromB (arcsOf xs) u && !toB (arcsOf xs) u) (xs.length - 1 - t)) :=
    List.filter_congr fun t ht => by simp at ht; rw [from_turned xs ht, to_turned xs ht]
  unfold openTo closeTo
  rw [h, filter_turned xs.length (fun u => fromB (arcsOf xs) u && !toB (arcsOf xs) u), List.map_map, ← List.map_reverse, List.map_map]
  refine List.map_congr_left fun t ht => ?_
  simp at ht
  simp [Function.comp]
  omega

theorem turned_at (l : List Int) (n : Int) (i : Nat) (hi : i < l.length) : (l.reverse.map fun v => n - 1 - v).getD i 0 = n - 1 - l.getD (l.length - 1 - i) 0 := by
  simp only [List.getD_eq_getElem?_getD, List.getElem?_map, List.getElem?_reverse hi]
  simp [show l.length - 1 - i < l.length by omega]

theorem openTo_bd (xs : List Int) (k : Nat) : ∀ v ∈ openTo xs k, 0 ≤ v ∧ v < k := by
  intro v hv
  simp only [openTo, List.mem_map, List.mem_filter, List.mem_range] at hv
  obtain ⟨t, ⟨h, _⟩, rfl⟩ := hv
  omega
theorem closeTo_bd (xs : List Int) (k : Nat) : ∀ v ∈ closeTo xs k, 0 ≤ v ∧ v < k := by
  intro v hv
  simp only [closeTo, List.mem_map, List.mem_filter, List.mem_range] at hv
  obtain ⟨t, ⟨h, _⟩, rfl⟩ := hv
  omega

end Go.Proofs.YtipmafplpoadjaaDoor
