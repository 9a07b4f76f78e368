/-
  ArcPart: what it answers. No program is named here.
-/
import Derived.Test.YtieldehghmikkaaKernMath
namespace Go.Proofs.Ytieldehghmikkaa
set_option linter.unusedSimpArgs false
set_option linter.unusedVariables false
set_option linter.unnecessarySimpa false

/-- A list tells an arc between two of n things. -/
def toldOk (n : Int) (r : List Int) : Bool := decide (r.length = 2 ∧ (0 ≤ r.getD 0 0 ∧ r.getD 0 0 < n) ∧ r.getD 0 0 < r.getD 1 0 ∧ r.getD 1 0 < n)

/-- From which thing an arc leads to each one (-1: from none), the sets of those from and to which one leads, and the arcs to come. -/
def fillArcs (n : Nat) : List Int → Nat → Nat → List (List Int) → Option (List Int)
  | up, _, _, [] => some up
  | up, F, T, r :: rs => if toldOk n r = true ∧ F.testBit (r.getD 0 0).toNat = false ∧ T.testBit (r.getD 1 0).toNat = false then
      fillArcs n (up.set (r.getD 1 0).toNat (r.getD 0 0)) (F ||| 2 ^ (r.getD 0 0).toNat) (T ||| 2 ^ (r.getD 1 0).toNat) rs else none

/-- The least thing of the block of each of the first k things. -/
def rootsTo (up : List Int) : Nat → List Int
  | 0 => []
  | k + 1 => rootsTo up k ++ [if up.getD k 0 < 0 then (k : Int) else (rootsTo up k).getD (up.getD k 0).toNat 0]

/-- Each thing, or the one from which an arc leads to it. -/
def lstOf (up : List Int) : List Int := (List.range up.length).map fun i => if up.getD i 0 < 0 then (i : Int) else up.getD i 0

def arcPart (n : Int) (rows : List (List Int)) : List Int × Bool :=
  if 1 ≤ n ∧ n ≤ 8 then match fillArcs n.toNat (List.replicate n.toNat (-1)) 0 0 rows with
    | some up => (kOut (rootsTo up n.toNat), true)
    | none => ([], false)
  else ([], false)

theorem rootsTo_length (up : List Int) : ∀ k, (rootsTo up k).length = k := by
  intro k
  induction k with
  | zero => rfl
  | succ k ih => simp [rootsTo, ih]

theorem lstOf_length (up : List Int) : (lstOf up).length = up.length := by simp [lstOf]

theorem lstOf_getD (up : List Int) (i : Nat) (h : i < up.length) : (lstOf up).getD i 0 = if up.getD i 0 < 0 then (i : Int) else up.getD i 0 := by
  have : (List.range up.length)[i]? = some i := by simp [h]
  simp only [lstOf, List.getD_eq_getElem?_getD, List.getElem?_map, this, Option.map_some, Option.getD_some]

theorem lstOf_set (up : List Int) (j : Nat) (x : Int) (h : j < up.length) (hx : 0 ≤ x) : lstOf (up.set j x) = (lstOf up).set j x := by
  apply List.ext_getElem?
  intro i
  by_cases hi : i < up.length
  · have e1 : (lstOf (up.set j x))[i]? = some ((lstOf (up.set j x)).getD i 0) := by
      rw [List.getD_eq_getElem?_getD, List.getElem?_eq_getElem (by rw [lstOf_length]; simpa using hi)]; rfl
    have e2 : ((lstOf up).set j x)[i]? = some (((lstOf up).set j x).getD i 0) := by
      rw [List.getD_eq_getElem?_getD, List.getElem?_eq_getElem (by rw [List.length_set, lstOf_length]; exact hi)]; rfl
    rw [e1, e2, lstOf_getD _ _ (by simpa using hi)]
    by_cases hj : j = i
    · subst hj
      simp [List.getD, hi, lstOf_length, show ¬ x < 0 by omega]
    · have := lstOf_getD up i hi
      simp only [List.getD_eq_getElem?_getD, List.getElem?_set, hj, if_false] at this ⊢
      rw [this]
  · rw [List.getElem?_eq_none (by rw [lstOf_length]; simp; omega), List.getElem?_eq_none (by rw [List.length_set, lstOf_length]; omega)]

/-- The arcs lead to greater things. -/
def UpOk (up : List Int) : Prop := ∀ i, i < up.length → up.getD i 0 < i

theorem upOk_start (n : Nat) : UpOk (List.replicate n (-1)) := fun i hi => by
  simp at hi
  simp [List.getD, List.getElem?_replicate, hi]
  omega

theorem upOk_set {up : List Int} (h : UpOk up) (j : Nat) (x : Int) (hx : x < j) : UpOk (up.set j x) := fun i hi => by
  simp at hi
  have := h i hi
  simp only [List.getD_eq_getElem?_getD, List.getElem?_set] at this ⊢
  split
  · next e => subst e; simp [hi]; exact hx
  · exact this

/-- What the list is once the first k things have theirs. -/
def stageU (up : List Int) (k : Nat) : List Int := rootsTo up k ++ (lstOf up).drop k

theorem stageU_length (up : List Int) (k : Nat) (h : k ≤ up.length) : (stageU up k).length = up.length := by simp [stageU, rootsTo_length, lstOf_length]; omega
theorem stageU_zero (up : List Int) : stageU up 0 = lstOf up := by simp [stageU, rootsTo]
theorem stageU_end (up : List Int) : stageU up up.length = rootsTo up up.length := by
  rw [stageU, List.drop_of_length_le (by rw [lstOf_length]; exact Nat.le_refl _), List.append_nil]

theorem stageU_at (up : List Int) (k : Nat) (h : k < up.length) : (stageU up k).getD k 0 = if up.getD k 0 < 0 then (k : Int) else up.getD k 0 := by
  rw [← lstOf_getD up k h, stageU, List.getD_eq_getElem?_getD, List.getElem?_append_right (by rw [rootsTo_length]; exact Nat.le_refl _), rootsTo_length, Nat.sub_self, List.getElem?_drop, Nat.add_zero, ← List.getD_eq_getElem?_getD]

theorem stageU_step (up : List Int) (hu : UpOk up) (k : Nat) (h : k < up.length) :
    (stageU up k).set k ((stageU up k).getD (if up.getD k 0 < 0 then (k : Int) else up.getD k 0).toNat 0) = stageU up (k + 1) := by
  have hl := rootsTo_length up k
  have hd : (lstOf up).drop k = (if up.getD k 0 < 0 then (k : Int) else up.getD k 0) :: (lstOf up).drop (k + 1) := by
    rw [← lstOf_getD up k h, List.drop_eq_getElem_cons (by rw [lstOf_length]; exact h)]
    simp [List.getD, lstOf_length, h]
  have hv : (stageU up k).getD (if up.getD k 0 < 0 then (k : Int) else up.getD k 0).toNat 0 = if up.getD k 0 < 0 then (k : Int) else (rootsTo up k).getD (up.getD k 0).toNat 0 := by
    by_cases hn : up.getD k 0 < 0
    · simp only [hn, if_true, Int.toNat_natCast]
      rw [stageU_at up k h, if_pos hn]
    · simp only [hn, if_false]
      have := hu k h
      rw [stageU, List.getD_eq_getElem?_getD, List.getElem?_append_left (by omega), ← List.getD_eq_getElem?_getD]
  rw [hv]
  have e2 : stageU up (k + 1) = rootsTo up k ++ ((if up.getD k 0 < 0 then (k : Int) else (rootsTo up k).getD (up.getD k 0).toNat 0) :: (lstOf up).drop (k + 1)) := by
    simp [stageU, rootsTo]
  rw [e2, stageU, hd, List.set_append_right _ _ (by omega), hl, Nat.sub_self, List.set_cons_zero]

/-- The list of the first loop. -/
def countTo (n k : Nat) : List Int := (List.range k).map (fun i : Nat => (i : Int)) ++ List.replicate (n - k) 0
theorem countTo_length (n k : Nat) (h : k ≤ n) : (countTo n k).length = n := by simp [countTo]; omega
theorem countTo_zero (n : Nat) : countTo n 0 = List.replicate n 0 := by simp [countTo]
theorem countTo_step (n k : Nat) (h : k < n) : (countTo n k).set k k = countTo n (k + 1) := by
  unfold countTo
  rw [List.set_append_right _ _ (by simp), show n - k = (n - (k + 1)) + 1 by omega, List.replicate_succ, List.length_map, List.length_range, Nat.sub_self, List.set_cons_zero, List.range_succ, List.map_append, List.append_assoc]
  rfl
theorem countTo_end (n : Nat) : countTo n n = lstOf (List.replicate n (-1)) := by
  unfold countTo lstOf
  rw [Nat.sub_self, List.replicate_zero, List.append_nil, List.length_replicate]
  refine List.map_congr_left fun i hi => ?_
  simp at hi
  simp [List.getD, List.getElem?_replicate, hi]

/-- The list of the model's first loop. -/
def minusTo (n k : Nat) : List Int := List.replicate k (-1) ++ List.replicate (n - k) 0
theorem minusTo_step (n k : Nat) (h : k < n) : (minusTo n k).set k (-1) = minusTo n (k + 1) := by
  unfold minusTo
  rw [List.set_append_right _ _ (by simp), show n - k = (n - (k + 1)) + 1 by omega, List.replicate_succ, List.length_replicate, Nat.sub_self, List.set_cons_zero, List.replicate_succ' (n := k), List.append_assoc]
  rfl
theorem minusTo_length (n k : Nat) (h : k ≤ n) : (minusTo n k).length = n := by simp [minusTo]; omega
theorem minusTo_zero (n : Nat) : minusTo n 0 = List.replicate n 0 := by simp [minusTo]
theorem minusTo_end (n : Nat) : minusTo n n = List.replicate n (-1) := by simp [minusTo]

theorem kOut_le (l : List Int) : (kOut l).length = l.length := kOut_length l

theorem fillArcs_length (n : Nat) : ∀ (rows : List (List Int)) (up : List Int) (F T : Nat) (r : List Int), fillArcs n up F T rows = some r → r.length = up.length := by
  intro rows
  induction rows with
  | nil => intro up F T r h; simp [fillArcs] at h; rw [h]
  | cons x xs ih =>
    intro up F T r h
    rw [fillArcs] at h
    split at h
    · rw [ih _ _ _ _ h, List.length_set]
    · cases h

theorem arcPart_len (n : Int) (xss : List (List Int)) : (arcPart n xss).1.length ≤ 2305843009213693952 := by
  unfold arcPart
  split
  · split
    · next h => simp only [kOut_length, rootsTo_length]; omega
    · simp
  · simp

end Go.Proofs.Ytieldehghmikkaa
