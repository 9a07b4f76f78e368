/-
  Long arcs: greatest things of blocks less least ones. No program is named here.
-/
import Derived.Test.YtipmafplpoadjaaDoorArcFacts
import Derived.Test.YtipmafplpoadjaaDoorBlocksOf
namespace Go.Proofs.YtipmafplpoadjaaDoor
set_option linter.unusedSimpArgs false
set_option linter.unusedVariables false
set_option linter.unnecessarySimpa false

theorem longL_perm {l m : List (Nat × Nat)} (h : l.Perm m) : longL l = longL m := by
  induction h with
  | nil => rfl
  | cons x h ih => simp only [longL, ih]
  | swap x y l => simp only [longL]; omega
  | trans _ _ i1 i2 => rw [i1, i2]

/-- The greatest number of a list less the least one. -/
def span (l : List Int) : Int := l.getD (l.length - 1) 0 - l.getD 0 0
def spanSum (f : Nat → List Int) : Nat → Int
  | 0 => 0
  | p + 1 => spanSum f p + span (f p)

theorem spanSum_congr (f g : Nat → List Int) : ∀ p, (∀ b, b < p → f b = g b) → spanSum f p = spanSum g p := by
  intro p
  induction p with
  | zero => intro _; rfl
  | succ p ih => intro h; rw [spanSum, spanSum, ih fun b hb => h b (by omega), h p (by omega)]

theorem spanSum_at (f g : Nat → List Int) (c : Nat) (d : Int) (hd : span (g c) = span (f c) + d) : ∀ p, c < p → (∀ b, b < p → b ≠ c → g b = f b) → spanSum g p = spanSum f p + d := by
  intro p
  induction p with
  | zero => intro h; omega
  | succ p ih =>
    intro hc h
    rw [spanSum, spanSum]
    by_cases e : c = p
    · subst e
      rw [spanSum_congr g f c fun b hb => h b (by omega) (by omega), hd]
      omega
    · rw [ih (by omega) fun b hb hne => h b (by omega) hne, h p (by omega) (fun k => e k.symm)]
      omega

theorem blk_succ (xs : List Int) (b k : Nat) : blkAt xs b (k + 1) = if xs.getD k 0 = (b : Int) then blkAt xs b k ++ [(k : Int)] else blkAt xs b k := by rw [blkAt]

theorem blk_last (xs : List Int) (b : Nat) : ∀ k, (blkAt xs b k = [] ∧ ∀ j, j < k → xs.getD j 0 ≠ (b : Int)) ∨
    ∃ j, j < k ∧ xs.getD j 0 = (b : Int) ∧ (∀ t, j < t → t < k → xs.getD t 0 ≠ (b : Int)) ∧ (blkAt xs b k).getD ((blkAt xs b k).length - 1) 0 = (j : Int) ∧ 0 < (blkAt xs b k).length := by
  intro k
  induction k with
  | zero => exact .inl ⟨rfl, fun j hj => by omega⟩
  | succ k ih =>
    rw [blk_succ]
    by_cases h : xs.getD k 0 = (b : Int)
    · rw [if_pos h]
      refine .inr ⟨k, by omega, h, fun t h1 h2 => by omega, ?_, by simp⟩
      rw [List.length_append, List.length_singleton, Nat.add_sub_cancel]
      exact getD_snoc_eq _ _
    · rw [if_neg h]
      rcases ih with ⟨h1, h2⟩ | ⟨j, h1, h2, h3, h4, h5⟩
      · refine .inl ⟨h1, fun j hj => ?_⟩
        by_cases e : j = k
        · subst e; exact h
        · exact h2 j (by omega)
      · refine .inr ⟨j, by omega, h2, fun t h6 h7 => ?_, h4, h5⟩
        by_cases e : t = k
        · subst e; exact h
        · exact h3 t h6 (by omega)

theorem span_snoc (l : List Int) (x : Int) : span (l ++ [x]) = span l + if l = [] then 0 else x - l.getD (l.length - 1) 0 := by
  by_cases h : l = []
  · subst h; simp [span]
  · have hl : 0 < l.length := List.length_pos_iff.2 h
    have e1 : (l ++ [x]).getD ((l ++ [x]).length - 1) 0 = x := by
      rw [List.length_append, List.length_singleton, Nat.add_sub_cancel]
      exact getD_snoc_eq _ _
    have e2 : (l ++ [x]).getD 0 0 = l.getD 0 0 := getD_snoc_lt _ _ _ hl
    unfold span
    rw [e1, e2, if_neg h]
    omega

theorem getD_take_lt (xs : List Int) (k j : Nat) (h : j < k) : (xs.take k).getD j 0 = xs.getD j 0 := by
  simp [List.getD, List.getElem?_take, h]

theorem arcs_take_none (xs : List Int) (k : Nat) (hk : k < xs.length) (h : ∀ j, j < k → xs.getD j 0 ≠ xs.getD k 0) : (arcsOf (xs.take (k + 1))).Perm (arcsOf (xs.take k)) := by
  refine arcs_perm fun p => ?_
  rw [arcs_iff, arcs_iff, List.length_take, List.length_take, Nat.min_eq_left (by omega), Nat.min_eq_left (by omega)]
  constructor
  · rintro ⟨h1, h2, h3, h4⟩
    rw [getD_take_lt _ _ _ h2, getD_take_lt _ _ _ (by omega)] at h3
    have hne : p.2 ≠ k := fun e => h p.1 (by omega) (by rw [← e]; exact h3.symm)
    refine ⟨h1, by omega, by rw [getD_take_lt _ _ _ (by omega), getD_take_lt _ _ _ (by omega)]; exact h3, fun j hj1 hj2 => ?_⟩
    have := h4 j hj1 hj2
    rw [getD_take_lt _ _ _ (by omega), getD_take_lt _ _ _ (by omega)] at this
    rw [getD_take_lt _ _ _ (by omega), getD_take_lt _ _ _ (by omega)]
    exact this
  · rintro ⟨h1, h2, h3, h4⟩
    rw [getD_take_lt _ _ _ h2, getD_take_lt _ _ _ (by omega)] at h3
    refine ⟨h1, by omega, by rw [getD_take_lt _ _ _ (by omega), getD_take_lt _ _ _ (by omega)]; exact h3, fun j hj1 hj2 => ?_⟩
    have := h4 j hj1 hj2
    rw [getD_take_lt _ _ _ (by omega), getD_take_lt _ _ _ (by omega)] at this
    rw [getD_take_lt _ _ _ (by omega), getD_take_lt _ _ _ (by omega)]
    exact this

theorem arcs_take_one (xs : List Int) (k i : Nat) (hk : k < xs.length) (hi : i < k) (he : xs.getD i 0 = xs.getD k 0) (h : ∀ t, i < t → t < k → xs.getD t 0 ≠ xs.getD k 0) : (arcsOf (xs.take (k + 1))).Perm ((i, k) :: arcsOf (xs.take k)) := by
  have hnd : ((i, k) :: arcsOf (xs.take k)).Nodup := List.nodup_cons.2 ⟨fun hm => by
    have := ((arcs_iff _ _).1 hm).2.1
    rw [List.length_take] at this
    dsimp only at this
    omega, arcs_nodup _⟩
  refine (List.perm_ext_iff_of_nodup (arcs_nodup _) hnd).2 (by
    intro p
    rw [List.mem_cons, arcs_iff, arcs_iff, List.length_take, List.length_take, Nat.min_eq_left (by omega), Nat.min_eq_left (by omega)]
    constructor
    · rintro ⟨h1, h2, h3, h4⟩
      rw [getD_take_lt _ _ _ h2, getD_take_lt _ _ _ (by omega)] at h3
      by_cases hp : p.2 = k
      · left
        have hpi : p.1 = i := by
          rcases Nat.lt_trichotomy p.1 i with q | q | q
          · have := h4 i q (by omega)
            rw [getD_take_lt _ _ _ (by omega), getD_take_lt _ _ _ (by omega)] at this
            exact absurd (by rw [he, ← hp, h3]) this
          · exact q
          · exact absurd (by rw [← hp, h3]) (h p.1 q (by omega))
        obtain ⟨a, b⟩ := p
        dsimp only at hp hpi
        rw [hp, hpi]
      · right
        refine ⟨h1, by omega, by rw [getD_take_lt _ _ _ (by omega), getD_take_lt _ _ _ (by omega)]; exact h3, fun j hj1 hj2 => ?_⟩
        have := h4 j hj1 hj2
        rw [getD_take_lt _ _ _ (by omega), getD_take_lt _ _ _ (by omega)] at this
        rw [getD_take_lt _ _ _ (by omega), getD_take_lt _ _ _ (by omega)]
        exact this
    · rintro (rfl | ⟨h1, h2, h3, h4⟩)
      · refine ⟨hi, by dsimp only; omega, by rw [getD_take_lt _ _ _ (by dsimp only; omega), getD_take_lt _ _ _ (by dsimp only; omega)]; exact he.symm, fun j hj1 hj2 => ?_⟩
        dsimp only at hj1 hj2 ⊢
        rw [getD_take_lt _ _ _ (by omega), getD_take_lt _ _ _ (by omega), he]
        exact h j hj1 hj2
      · rw [getD_take_lt _ _ _ h2, getD_take_lt _ _ _ (by omega)] at h3
        refine ⟨h1, by omega, by rw [getD_take_lt _ _ _ (by omega), getD_take_lt _ _ _ (by omega)]; exact h3, fun j hj1 hj2 => ?_⟩
        have := h4 j hj1 hj2
        rw [getD_take_lt _ _ _ (by omega), getD_take_lt _ _ _ (by omega)] at this
        rw [getD_take_lt _ _ _ (by omega), getD_take_lt _ _ _ (by omega)]
        exact this)

theorem long_spans (xs : List Int) (p : Nat) (hb : ∀ j, j < xs.length → 0 ≤ xs.getD j 0 ∧ xs.getD j 0 < p) : ∀ k, k ≤ xs.length → spanSum (fun b => blkAt xs b k) p = ((longL (arcsOf (xs.take k)) : Nat) : Int) := by
  intro k
  induction k with
  | zero =>
    intro _
    have : ∀ q, spanSum (fun b => blkAt xs b 0) q = 0 := by
      intro q
      induction q with
      | zero => rfl
      | succ q ih => rw [spanSum, ih]; rfl
    rw [this]
    rfl
  | succ k ih =>
    intro hk
    have h0 := ih (by omega)
    obtain ⟨hv0, hv1⟩ := hb k (by omega)
    obtain ⟨c, hc⟩ := Int.eq_ofNat_of_zero_le hv0
    have hcp : c < p := by omega
    have hother : ∀ b, b < p → b ≠ c → blkAt xs b (k + 1) = blkAt xs b k := fun b _ hne => by
      rw [blk_succ, if_neg (by rw [hc]; omega)]
    have hsame : blkAt xs c (k + 1) = blkAt xs c k ++ [(k : Int)] := by rw [blk_succ, if_pos hc]
    rcases blk_last xs c k with ⟨h1, h2⟩ | ⟨i, h1, h2, h3, h4, h5⟩
    · rw [spanSum_at (fun b => blkAt xs b k) (fun b => blkAt xs b (k + 1)) c 0 (by
        show span (blkAt xs c (k + 1)) = _
        rw [hsame, span_snoc, if_pos h1]) p hcp hother, h0, longL_perm (arcs_take_none xs k (by omega) fun j hj => by rw [hc]; exact h2 j hj)]
      omega
    · have hne : blkAt xs c k ≠ [] := fun e => by rw [e] at h5; simp at h5
      rw [spanSum_at (fun b => blkAt xs b k) (fun b => blkAt xs b (k + 1)) c ((k : Int) - (i : Int)) (by
        show span (blkAt xs c (k + 1)) = _
        rw [hsame, span_snoc, if_neg hne, h4]) p hcp hother, h0, longL_perm (arcs_take_one xs k i (by omega) h1 (by rw [h2, hc]) fun t a b => by rw [hc]; exact h3 t a b)]
      simp only [longL]
      omega

end Go.Proofs.YtipmafplpoadjaaDoor
