/-
  Arcs lead back to partitions; partitions have as many arcs as told. No program is named here.
-/
import Derived.Test.YtipmafplpoadjaaArcFacts
namespace Go.Proofs.Ytipmafplpoadjaa
set_option linter.unusedSimpArgs false
set_option linter.unusedVariables false
set_option linter.unnecessarySimpa false

theorem bit_or (F a b : Nat) : (F ||| 2 ^ a).testBit b = (F.testBit b || decide (a = b)) := by rw [Nat.testBit_or, Nat.testBit_two_pow]

/-- From which thing an arc leads to each one, given the arcs. -/
def upOf (up : List Int) (L : List (Nat × Nat)) : List Int := L.foldl (fun u p => u.set p.2 (p.1 : Int)) up

theorem upOf_length (L : List (Nat × Nat)) : ∀ up, (upOf up L).length = up.length := by
  induction L with
  | nil => intro up; rfl
  | cons p L ih => intro up; show (upOf (up.set p.2 (p.1 : Int)) L).length = _; rw [ih, List.length_set]

theorem getD_set_eq (l : List Int) (k : Nat) (x : Int) (j : Nat) (h : k < l.length) : (l.set k x).getD j 0 = if k = j then x else l.getD j 0 := by
  simp only [List.getD_eq_getElem?_getD, List.getElem?_set]
  split <;> simp_all

theorem upOf_no (L : List (Nat × Nat)) : ∀ (up : List Int) (k : Nat), (∀ p ∈ L, p.2 ≠ k) → (upOf up L).getD k 0 = up.getD k 0 := by
  induction L with
  | nil => intro up k _; rfl
  | cons p L ih =>
    intro up k h
    show (upOf (up.set p.2 (p.1 : Int)) L).getD k 0 = _
    rw [ih _ _ fun q hq => h q (List.mem_cons_of_mem _ hq)]
    have := h p (by simp)
    simp only [List.getD_eq_getElem?_getD, List.getElem?_set, this, if_false]

theorem upOf_yes (L : List (Nat × Nat)) : ∀ (up : List Int), L.Pairwise (fun p q => p.1 < q.1 ∧ p.2 ≠ q.2) → ∀ p ∈ L, p.2 < up.length → (upOf up L).getD p.2 0 = (p.1 : Int) := by
  induction L with
  | nil => intro up _ p h; simp at h
  | cons q L ih =>
    intro up hp p hm hl
    rw [List.pairwise_cons] at hp
    show (upOf (up.set q.2 (q.1 : Int)) L).getD p.2 0 = _
    rcases List.mem_cons.1 hm with rfl | hm
    · rw [upOf_no L _ _ fun r hr => fun e => (hp.1 r hr).2 e.symm, getD_set_eq _ _ _ _ hl, if_pos rfl]
    · exact ih _ hp.2 p hm (by rw [List.length_set]; exact hl)

theorem fill_arcs (n : Nat) : ∀ (L : List (Nat × Nat)) (up : List Int) (F T : Nat), (∀ p ∈ L, p.1 < p.2 ∧ p.2 < n) → L.Pairwise (fun p q => p.1 < q.1 ∧ p.2 ≠ q.2) →
    (∀ p ∈ L, F.testBit p.1 = false ∧ T.testBit p.2 = false) → fillArcs n up F T (rowsOf L) = some (upOf up L) := by
  intro L
  induction L with
  | nil => intro up F T _ _ _; rfl
  | cons p L ih =>
    intro up F T h1 h2 h3
    rw [List.pairwise_cons] at h2
    have e : rowsOf (p :: L) = [(p.1 : Int), (p.2 : Int)] :: rowsOf L := rfl
    obtain ⟨hp1, hp2⟩ := h1 p (by simp)
    obtain ⟨hb1, hb2⟩ := h3 p (by simp)
    have ht : toldOk n [(p.1 : Int), (p.2 : Int)] = true := by
      simp [toldOk]
      omega
    rw [e, fillArcs]
    simp only [List.getD_cons_zero, List.getD_cons_succ, Int.toNat_natCast]
    rw [if_pos ⟨ht, hb1, hb2⟩]
    refine ih _ _ _ (fun q hq => h1 q (List.mem_cons_of_mem _ hq)) h2.2 fun q hq => ?_
    obtain ⟨c1, c2⟩ := h3 q (List.mem_cons_of_mem _ hq)
    have := h2.1 q hq
    rw [bit_or, bit_or, c1, c2]
    simp
    omega

theorem last_before {xs : List Int} {x : Int} : ∀ k, (∃ j, j < k ∧ xs.getD j 0 = x) → ∃ j, j < k ∧ xs.getD j 0 = x ∧ ∀ t, j < t → t < k → xs.getD t 0 ≠ x := by
  intro k
  induction k with
  | zero => rintro ⟨j, hj, _⟩; omega
  | succ k ih =>
    rintro ⟨j, hj, he⟩
    by_cases hk : xs.getD k 0 = x
    · exact ⟨k, by omega, hk, fun t h1 h2 => by omega⟩
    · obtain ⟨i, h1, h2, h3⟩ := ih ⟨j, by
        rcases Nat.lt_or_ge j k with h | h
        · exact h
        · have : j = k := by omega
          subst this; exact absurd he hk, he⟩
      refine ⟨i, by omega, h2, fun t h4 h5 => ?_⟩
      by_cases htk : t = k
      · subst htk; exact hk
      · exact h3 t h4 (by omega)

theorem roots_are (xs : List Int) : ∀ k, k ≤ xs.length → ∀ i, i < k → (rootsTo (upOf (List.replicate xs.length (-1)) (arcsOf xs)) k).getD i 0 = (xs.idxOf (xs.getD i 0) : Nat) := by
  intro k
  induction k with
  | zero => intro _ i hi; omega
  | succ k ih =>
    intro hk i hi
    have hl := rootsTo_length (upOf (List.replicate xs.length (-1)) (arcsOf xs)) k
    rw [rootsTo]
    by_cases hik : i < k
    · rw [getD_snoc_lt _ _ _ (by omega)]
      exact ih (by omega) i hik
    · have : i = k := by omega
      subst this
      have hg : ∀ y, (rootsTo (upOf (List.replicate xs.length (-1)) (arcsOf xs)) i ++ [y]).getD i 0 = y := fun y => by
        have := getD_snoc_eq (rootsTo (upOf (List.replicate xs.length (-1)) (arcsOf xs)) i) y
        rwa [hl] at this
      rw [hg]
      have hmem : xs.getD i 0 ∈ xs := mem_of_getD (by omega) rfl
      by_cases hp : ∃ j, j < i ∧ xs.getD j 0 = xs.getD i 0
      · obtain ⟨j, hj, he, hn⟩ := last_before i hp
        have hm : (j, i) ∈ arcsOf xs := (arcs_iff xs (j, i)).2 ⟨hj, by dsimp only; omega, he.symm, fun t h1 h2 => by dsimp only at h1 h2 ⊢; rw [he]; exact hn t h1 h2⟩
        have hu := upOf_yes (arcsOf xs) (List.replicate xs.length (-1)) (arcsFrom_sorted xs 0) (j, i) hm (by simp; omega)
        dsimp only at hu
        rw [hu, if_neg (by omega), Int.toNat_natCast, ih (by omega) j hj, he]
      · have hu := upOf_no (arcsOf xs) (List.replicate xs.length (-1)) i fun p hp2 e => by
          obtain ⟨h1, h2, h3, _⟩ := (arcs_iff xs p).1 hp2
          rw [e] at h1 h3
          exact hp ⟨p.1, h1, h3.symm⟩
        rw [hu]
        have : (List.replicate xs.length (-1 : Int)).getD i 0 = -1 := by simp [List.getD, List.getElem?_replicate, show i < xs.length by omega]
        rw [this, if_pos (by omega)]
        rw [(idx_at (x := xs.getD i 0) (ys := xs) (t := i) (by omega) rfl fun j hj e => hp ⟨j, hj, e⟩).2]

/-- The arcs of a partition lead back to it. -/
theorem arcs_back {xs : List Int} (hx : partIn xs = true) : arcPart (xs.length : Int) (rowsOf (arcsOf xs)) = (xs, true) := by
  have hl := partIn_len hx
  have hf := fill_arcs xs.length (arcsOf xs) (List.replicate xs.length (-1)) 0 0 (fun p hp => by have := (arcs_iff xs p).1 hp; exact ⟨this.1, this.2.1⟩) (arcsFrom_sorted xs 0) (fun p _ => by simp)
  unfold arcPart
  rw [if_pos (by omega), Int.toNat_natCast, hf]
  have hr := roots_are xs xs.length (Nat.le_refl _)
  have hrl := rootsTo_length (upOf (List.replicate xs.length (-1)) (arcsOf xs)) xs.length
  have hk := (kOut_pat xs _ hrl fun i j hi hj => by
    rw [hr i hi, hr j hj]
    constructor
    · intro e; rw [e]
    · intro e
      have h1 := getD_idxOf (mem_of_getD hi rfl : xs.getD i 0 ∈ xs)
      have h2 := getD_idxOf (mem_of_getD hj rfl : xs.getD j 0 ∈ xs)
      have e' : xs.idxOf (xs.getD i 0) = xs.idxOf (xs.getD j 0) := by omega
      rw [← h1, ← h2, e']).1
  simp only [hk, kOut_partA hx]

/-- How many things no arc leads to. -/
def heads (up : List Int) : Nat := up.countP (fun x => decide (x < 0))

theorem heads_set (up : List Int) (j : Nat) (x : Int) (h : j < up.length) (h1 : up.getD j 0 < 0) (h2 : 0 ≤ x) : heads (up.set j x) + 1 = heads up := by
  unfold heads
  rw [List.countP_set h]
  have e : up[j] = up.getD j 0 := by simp [List.getD, h]
  have hp : 0 < up.countP (fun x => decide (x < 0)) := List.countP_pos_iff.2 ⟨up[j], List.getElem_mem h, by rw [e]; simpa using h1⟩
  have h1' : up[j] < 0 := by rw [e]; exact h1
  simp only [h1', show ¬ x < 0 by omega, decide_true, decide_false, if_true]
  simp
  omega

theorem fill_count (n : Nat) : ∀ (rows : List (List Int)) (up : List Int) (F T : Nat) (r : List Int), up.length = n → UpOk up → (∀ j, j < n → (T.testBit j = false → up.getD j 0 < 0)) → fillArcs n up F T rows = some r →
    heads r + rows.length = heads up ∧ UpOk r ∧ r.length = n := by
  intro rows
  induction rows with
  | nil => intro up F T r hl hu _ h; simp [fillArcs] at h; subst h; exact ⟨rfl, hu, hl⟩
  | cons x xs ih =>
    intro up F T r hl hu hT h
    rw [fillArcs] at h
    split at h
    · next hc =>
      obtain ⟨hok, _, hb⟩ := hc
      simp only [toldOk, decide_eq_true_eq] at hok
      obtain ⟨_, ⟨h00, h0n⟩, h01, h1n⟩ := hok
      obtain ⟨a, ha⟩ := Int.eq_ofNat_of_zero_le h00
      obtain ⟨b, hbb⟩ := Int.eq_ofNat_of_zero_le (show 0 ≤ x.getD 1 0 by omega)
      rw [ha] at h h0n h01
      rw [hbb, Int.toNat_natCast] at h hb
      rw [hbb] at h01 h1n
      have hbl : b < up.length := by omega
      have hs := heads_set up b (a : Int) hbl (hT b (by omega) hb) (by omega)
      obtain ⟨i1, i2, i3⟩ := ih _ _ _ r (by rw [List.length_set]; exact hl) (upOk_set hu b (a : Int) (by omega)) (fun j hj hbit => by
        rw [bit_or] at hbit
        simp at hbit
        rw [getD_set_eq _ _ _ _ hbl, if_neg hbit.2]
        exact hT j hj hbit.1) h
      exact ⟨by simp; omega, i2, i3⟩
    · cases h

theorem roots_lt (up : List Int) (hu : UpOk up) : ∀ k, k ≤ up.length → (∀ r ∈ rootsTo up k, r < k) ∧ kNext (rootsTo up k) = ((heads (up.take k) : Nat) : Int) := by
  intro k
  induction k with
  | zero => intro _; exact ⟨fun r hr => by simp [rootsTo] at hr, rfl⟩
  | succ k ih =>
    intro hk
    obtain ⟨h1, h2⟩ := ih (by omega)
    have hl := rootsTo_length up k
    have ht : up.take (k + 1) = up.take k ++ [up.getD k 0] := take_snoc up k (by omega)
    have hh : heads (up.take (k + 1)) = heads (up.take k) + if up.getD k 0 < 0 then 1 else 0 := by
      unfold heads
      rw [ht, List.countP_append]
      simp [List.countP_cons]
    rw [hh, rootsTo]
    by_cases hn : up.getD k 0 < 0
    · rw [if_pos hn, if_pos hn]
      refine ⟨fun r hr => ?_, ?_⟩
      · rcases List.mem_append.1 hr with h | h
        · have := h1 r h; omega
        · simp at h; omega
      · rw [kNext_snocA, if_neg (fun hm => by have := h1 _ hm; omega), h2]
        simp
    · rw [if_neg hn, if_neg hn]
      have hu' := hu k (by omega)
      have hm : (rootsTo up k).getD (up.getD k 0).toNat 0 ∈ rootsTo up k := mem_of_getD (by omega) rfl
      refine ⟨fun r hr => ?_, ?_⟩
      · rcases List.mem_append.1 hr with h | h
        · have := h1 r h; omega
        · rw [List.mem_singleton] at h
          rw [h]
          have := h1 _ hm
          omega
      · rw [kNext_snocA, if_pos hm, h2]
        simp

/-- A partition told by its arcs has as many as told. -/
theorem part_arcs {n : Int} {rows : List (List Int)} {xs : List Int} (h : arcPart n rows = (xs, true)) : partIn xs = true ∧ (arcsOf xs).length = rows.length := by
  unfold arcPart at h
  split at h
  · next hn =>
    split at h
    · next up hf =>
      simp only [Prod.mk.injEq, and_true] at h
      subst h
      obtain ⟨c1, c2, c3⟩ := fill_count n.toNat rows _ 0 0 up (by simp) (upOk_start _) (fun j hj _ => by simp [List.getD, List.getElem?_replicate, hj]) hf
      have hl := rootsTo_length up n.toNat
      have hr := (roots_lt up c2 n.toNat (by omega)).2
      rw [List.take_of_length_le (by omega)] at hr
      have hp : partIn (kOut (rootsTo up n.toNat)) = true := partIn_kOut (by omega) (by omega)
      refine ⟨hp, ?_⟩
      have ha := arcs_rank hp
      rw [pSize_kOut, kOut_length, hl, hr] at ha
      have hh : heads (List.replicate n.toNat (-1)) = n.toNat := by
        unfold heads
        rw [List.countP_replicate]
        simp
      omega
    · cases h
  · cases h

end Go.Proofs.Ytipmafplpoadjaa
