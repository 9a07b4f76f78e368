/-
  Plain lists: the ranks of a meet and of a join add up to no more than the ranks of the two. No program is named here.
-/
import Derived.Test.YtbmpchpcihnbdaaDropMath
import Derived.Test.YtbmpchpcihnbdaaFinRank
namespace Go.Proofs.Ytbmpchpcihnbdaa
set_option linter.unusedSimpArgs false
set_option linter.unusedVariables false
set_option linter.unnecessarySimpa false

theorem mem_upto {xs : List Int} {k : Nat} (hk : k ≤ xs.length) (x : Int) : x ∈ xs.take k ↔ ∃ i, i < k ∧ xs.getD i 0 = x := by
  constructor
  · intro h
    obtain ⟨i, hi, e⟩ := List.getElem_of_mem h
    have h1 : i < k := by simp at hi; omega
    refine ⟨i, h1, ?_⟩
    rw [List.getElem_take] at e
    simp [List.getD, List.getElem?_eq_getElem (show i < xs.length by omega), e]
  · rintro ⟨i, hi, rfl⟩
    refine mem_of_getD (f := xs.take k) (j := i) (by simp; omega) ?_
    simp [List.getD, List.getElem?_take, hi]

theorem kNext_upto {xs : List Int} {k : Nat} (hk : k < xs.length) : kNext (xs.take (k + 1)) = kNext (xs.take k) + if xs.getD k 0 ∈ xs.take k then 0 else 1 := by
  rw [take_snoc xs k hk, kNext_snoc]

/-- What tells fewer things apart has fewer numbers. -/
theorem kNext_coarse {p q : List Int} (hl : q.length = p.length) (h : ∀ i j, i < p.length → j < p.length → p.getD i 0 = p.getD j 0 → q.getD i 0 = q.getD j 0) : kNext q ≤ kNext p := by
  have key : ∀ k, k ≤ p.length → kNext (q.take k) ≤ kNext (p.take k) := by
    intro k
    induction k with
    | zero => intro _; simp
    | succ k ih =>
      intro hk
      have ih := ih (by omega)
      rw [kNext_upto (by omega), kNext_upto (xs := p) (by omega)]
      by_cases m : p.getD k 0 ∈ p.take k
      · obtain ⟨i, hi, e⟩ := (mem_upto (by omega) _).1 m
        have m2 : q.getD k 0 ∈ q.take k := (mem_upto (by omega) _).2 ⟨i, hi, h i k (by omega) (by omega) e⟩
        rw [if_pos m, if_pos m2]
        omega
      · rw [if_neg m]
        split <;> omega
  have := key p.length (Nat.le_refl _)
  rwa [List.take_of_length_le (by omega), List.take_of_length_le (Nat.le_refl _)] at this

def told (u v t : Int) : Int := if t = v then u else t

/-- Two numbers told as one: one number less at most. -/
theorem kNext_told {u v : Int} (huv : u ≠ v) : ∀ r : List Int, kNext r ≤ kNext (r.map (told u v)) + if v ∈ r ∧ u ∈ r then 1 else 0 := by
  refine snoc_induction (by simp) fun r t ih => ?_
  rw [List.map_append, List.map_singleton, kNext_snoc, kNext_snoc]
  have hm : ∀ t, t ≠ v → t ≠ u → (told u v t ∈ r.map (told u v) ↔ t ∈ r) := by
    intro t h1 h2
    rw [List.mem_map]
    constructor
    · rintro ⟨s, hs, e⟩
      unfold told at e
      rw [if_neg h1] at e
      split at e
      · exact absurd e.symm h2
      · rwa [e] at hs
    · exact fun h => ⟨t, h, rfl⟩
  have hu : ∀ t, t = u ∨ t = v → (told u v t ∈ r.map (told u v) ↔ u ∈ r ∨ v ∈ r) := by
    intro t ht
    have e0 : told u v t = u := by
      unfold told
      rcases ht with h | h
      · rw [h, if_neg huv]
      · rw [if_pos h]
    rw [e0, List.mem_map]
    constructor
    · rintro ⟨s, hs, e⟩
      unfold told at e
      split at e
      · rename_i h; rw [h] at hs; exact .inr hs
      · rw [e] at hs; exact .inl hs
    · rintro (h | h)
      · exact ⟨u, h, by unfold told; rw [if_neg huv]⟩
      · exact ⟨v, h, by unfold told; rw [if_pos rfl]⟩
  simp only [List.mem_append, List.mem_singleton]
  by_cases h1 : t = v
  · subst h1
    have e1 := hu t (.inr rfl)
    by_cases a : t ∈ r <;> by_cases b : u ∈ r <;> simp only [e1, a, b, true_or, or_true, or_false, false_or, true_and, and_true, and_false, false_and, if_true, if_false, huv] at ih ⊢ <;> omega
  · by_cases h2 : t = u
    · subst h2
      have e1 := hu t (.inl rfl)
      have h1' : ¬ v = t := fun e => h1 e.symm
      by_cases a : v ∈ r <;> by_cases b : t ∈ r <;> simp only [e1, a, b, h1', true_or, or_true, or_false, false_or, true_and, and_true, and_false, false_and, if_true, if_false] at ih ⊢ <;> omega
    · have e1 := hm t h1 h2
      have h1' : ¬ v = t := fun e => h1 e.symm
      have h2' : ¬ u = t := fun e => h2 e.symm
      simp only [e1, h1', h2', or_false]
      omega

theorem fresh : ∀ r : List Int, ∃ w : Int, ∀ t ∈ r, t < w
  | [] => ⟨0, fun t h => by cases h⟩
  | a :: r => by
    obtain ⟨w, h⟩ := fresh r
    refine ⟨max (a + 1) w, fun t ht => ?_⟩
    rcases List.mem_cons.1 ht with rfl | ht
    · omega
    · have := h t ht; omega

def Keeps (xs ys r : List Int) (k : Nat) : Prop := ∀ i j, i < k → j < k → xs.getD i 0 = xs.getD j 0 ∨ ys.getD i 0 = ys.getD j 0 → r.getD i 0 = r.getD j 0

theorem keeps_snoc {xs ys r : List Int} {k : Nat} (hr : r.length = k) (h : Keeps xs ys r k) (w : Int) (hw : ∀ i, i < k → xs.getD i 0 = xs.getD k 0 ∨ ys.getD i 0 = ys.getD k 0 → r.getD i 0 = w) : Keeps xs ys (r ++ [w]) (k + 1) := by
  have A : ∀ i, i < k → (r ++ [w]).getD i 0 = r.getD i 0 := fun i hi => getD_snoc_lt r w i (by omega)
  have L : (r ++ [w]).getD k 0 = w := by rw [← hr]; exact getD_snoc_eq r w
  intro i j hi hj e
  by_cases h1 : i < k <;> by_cases h2 : j < k
  · rw [A i h1, A j h2]; exact h i j h1 h2 e
  · obtain rfl : j = k := by omega
    rw [A i h1, L]; exact hw i h1 e
  · obtain rfl : i = k := by omega
    rw [A j h2, L]; exact (hw j h2 (e.imp Eq.symm Eq.symm)).symm
  · obtain rfl : i = k := by omega
    obtain rfl : j = i := by omega
    rfl

theorem map_at {f : Int → Int} {r : List Int} {i : Nat} (h : i < r.length) : (r.map f).getD i 0 = f (r.getD i 0) := by
  simp [List.getD, List.getElem?_eq_getElem h]

theorem forest {xs ys zs : List Int} (hy : ys.length = xs.length) (hz : zs.length = xs.length)
    (h : ∀ i j, i < xs.length → j < xs.length → (zs.getD i 0 = zs.getD j 0 ↔ xs.getD i 0 = xs.getD j 0 ∧ ys.getD i 0 = ys.getD j 0)) :
    ∀ k, k ≤ xs.length → ∃ r : List Int, r.length = k ∧ Keeps xs ys r k ∧ kNext (xs.take k) + kNext (ys.take k) ≤ kNext (zs.take k) + kNext r := by
  intro k
  induction k with
  | zero => exact fun _ => ⟨[], rfl, fun i j hi => by omega, by simp⟩
  | succ k ih =>
    intro hk
    obtain ⟨r, hr, hg, hle⟩ := ih (by omega)
    rw [kNext_upto (xs := xs) (by omega), kNext_upto (xs := ys) (by omega), kNext_upto (xs := zs) (by omega)]
    have hzx : zs.getD k 0 ∈ zs.take k → ∃ c, c < k ∧ xs.getD c 0 = xs.getD k 0 ∧ ys.getD c 0 = ys.getD k 0 := by
      intro m
      obtain ⟨c, hc, e⟩ := (mem_upto (by omega) _).1 m
      exact ⟨c, hc, (h c k (by omega) (by omega)).1 e⟩
    have hgrow : ∀ w, kNext r ≤ kNext (r ++ [w]) := fun w => by rw [kNext_snoc]; split <;> omega
    by_cases mx : xs.getD k 0 ∈ xs.take k
    · obtain ⟨a, ha, ea⟩ := (mem_upto (by omega) _).1 mx
      rw [if_pos mx]
      by_cases my : ys.getD k 0 ∈ ys.take k
      · obtain ⟨b, hb, eb⟩ := (mem_upto (by omega) _).1 my
        rw [if_pos my]
        by_cases huv : r.getD a 0 = r.getD b 0
        · refine ⟨r ++ [r.getD a 0], by simp [hr], keeps_snoc hr hg _ fun i hi e => ?_, ?_⟩
          · rcases e with e | e
            · exact hg i a hi ha (.inl (e.trans ea.symm))
            · rw [huv]; exact hg i b hi hb (.inr (e.trans eb.symm))
          · have := hgrow (r.getD a 0)
            split <;> omega
        · have mz : zs.getD k 0 ∉ zs.take k := by
            intro m
            obtain ⟨c, hc, e1, e2⟩ := hzx m
            exact huv ((hg a c ha hc (.inl (ea.trans e1.symm))).trans (hg c b hc hb (.inr (e2.trans eb.symm))))
          rw [if_neg mz]
          have ht := kNext_told huv r
          have hs : kNext (r.map (told (r.getD a 0) (r.getD b 0))) ≤ kNext (r.map (told (r.getD a 0) (r.getD b 0)) ++ [r.getD a 0]) := by rw [kNext_snoc]; split <;> omega
          have tu : told (r.getD a 0) (r.getD b 0) (r.getD a 0) = r.getD a 0 := by unfold told; rw [if_neg huv]
          have tv : told (r.getD a 0) (r.getD b 0) (r.getD b 0) = r.getD a 0 := by unfold told; rw [if_pos rfl]
          refine ⟨r.map (told (r.getD a 0) (r.getD b 0)) ++ [r.getD a 0], by simp [hr], keeps_snoc (by simp [hr]) (fun i j hi hj e => ?_) _ fun i hi e => ?_, ?_⟩
          · rw [map_at (by omega), map_at (by omega), hg i j hi hj e]
          · rw [map_at (by omega)]
            rcases e with e | e
            · rw [hg i a hi ha (.inl (e.trans ea.symm)), tu]
            · rw [hg i b hi hb (.inr (e.trans eb.symm)), tv]
          · split at ht <;> omega
      · rw [if_neg my]
        have mz : zs.getD k 0 ∉ zs.take k := by
          intro m
          obtain ⟨c, hc, e1, e2⟩ := hzx m
          exact my ((mem_upto (by omega) _).2 ⟨c, hc, e2⟩)
        rw [if_neg mz]
        refine ⟨r ++ [r.getD a 0], by simp [hr], keeps_snoc hr hg _ fun i hi e => ?_, ?_⟩
        · rcases e with e | e
          · exact hg i a hi ha (.inl (e.trans ea.symm))
          · exact absurd ((mem_upto (by omega) _).2 ⟨i, hi, e⟩) my
        · have := hgrow (r.getD a 0)
          omega
    · rw [if_neg mx]
      have mz : zs.getD k 0 ∉ zs.take k := by
        intro m
        obtain ⟨c, hc, e1, e2⟩ := hzx m
        exact mx ((mem_upto (by omega) _).2 ⟨c, hc, e1⟩)
      rw [if_neg mz]
      by_cases my : ys.getD k 0 ∈ ys.take k
      · obtain ⟨b, hb, eb⟩ := (mem_upto (by omega) _).1 my
        rw [if_pos my]
        refine ⟨r ++ [r.getD b 0], by simp [hr], keeps_snoc hr hg _ fun i hi e => ?_, ?_⟩
        · rcases e with e | e
          · exact absurd ((mem_upto (by omega) _).2 ⟨i, hi, e⟩) mx
          · exact hg i b hi hb (.inr (e.trans eb.symm))
        · have := hgrow (r.getD b 0)
          omega
      · rw [if_neg my]
        obtain ⟨w, hw⟩ := fresh r
        have hn : w ∉ r := fun m => by have := hw w m; omega
        refine ⟨r ++ [w], by simp [hr], keeps_snoc hr hg _ fun i hi e => ?_, ?_⟩
        · rcases e with e | e
          · exact absurd ((mem_upto (by omega) _).2 ⟨i, hi, e⟩) mx
          · exact absurd ((mem_upto (by omega) _).2 ⟨i, hi, e⟩) my
        · rw [kNext_snoc, if_neg hn]
          omega

theorem kNext_part {xs : List Int} (hx : partIn xs = true) : pSize xs = kNext xs := by
  have := pSize_kOut xs
  rw [kOut_part hx] at this
  exact this

theorem ranks_facts {xs ys : List Int} (ha : alike xs ys = true) : ∃ rm rj ra rb : Int,
    finerRank (kOut (mix 8 xs ys)) = (rm, true) ∧ finerRank (kOut (joinAll xs ys xs.length xs.length)) = (rj, true) ∧ finerRank xs = (ra, true) ∧ finerRank ys = (rb, true) ∧
    rm + rj ≤ ra + rb ∧ (0 ≤ rm ∧ rm ≤ 8) ∧ (0 ≤ rj ∧ rj ≤ 8) ∧ (0 ≤ ra ∧ ra ≤ 8) ∧ (0 ≤ rb ∧ rb ≤ 8) := by
  obtain ⟨hx, hy, hl⟩ := alike_iff.1 ha
  have hm := (finer_parts (meet_finer ha).1).1
  have hj := (finer_parts (join_finer ha).1).2.1
  have hml : (kOut (mix 8 xs ys)).length = xs.length := by rw [kOut_length, mix_length]
  have hjl : (kOut (joinAll xs ys xs.length xs.length)).length = xs.length := by rw [kOut_length, joinAll_len]
  have hb := partIn_len hx
  obtain ⟨r, hr, hg, hle⟩ := forest (zs := mix 8 xs ys) hl.symm (mix_length _ _ _) (fun i j hi hj => mix_eq_iff hx hy hl hi hj) xs.length (Nat.le_refl _)
  rw [List.take_of_length_le (Nat.le_refl _), List.take_of_length_le (by omega), List.take_of_length_le (by rw [mix_length]; exact Nat.le_refl _)] at hle
  have hc : kNext r ≤ kNext (joinAll xs ys xs.length xs.length) := kNext_coarse (by rw [joinAll_len, hr]) fun i j hi hj e => by
    rw [joinAll_len] at hi hj
    exact join_coarse (fun i k hi hk ht => hg i k hi hk (tog_iff.1 ht)) hi hj e
  have p1 := pSize_le' hm
  have p2 := pSize_le' hj
  have p3 := pSize_le' hx
  have p4 := pSize_le' hy
  have q1 := pSize_bd (partIn_small hm)
  have q2 := pSize_bd (partIn_small hj)
  have q3 := pSize_bd (partIn_small hx)
  have q4 := pSize_bd (partIn_small hy)
  refine ⟨_, _, _, _, finerRank_yes hm, finerRank_yes hj, finerRank_yes hx, finerRank_yes hy, ?_, ?_, ?_, ?_, ?_⟩
  · rw [pSize_kOut, pSize_kOut, kNext_part hx, kNext_part hy, hml, hjl]
    omega
  all_goals omega

end Go.Proofs.Ytbmpchpcihnbdaa
