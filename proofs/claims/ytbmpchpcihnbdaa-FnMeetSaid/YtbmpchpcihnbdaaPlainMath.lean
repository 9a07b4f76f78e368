/-
  Plain lists: what meets, joins, finer partitions, sizes and merges have to do with each other. No program is named here.
-/
import Derived.Test.YtbmpchpcihnbdaaParts
import Derived.Test.YtbmpchpcihnbdaaJoinMath
import Derived.Test.YtbmpchpcihnbdaaFinMeet
import Derived.Test.YtbmpchpcihnbdaaFinSign
import Derived.Test.YtbmpchpcihnbdaaFinMerges
namespace Go.Proofs.Ytbmpchpcihnbdaa
set_option linter.unusedSimpArgs false
set_option linter.unusedVariables false
set_option linter.unnecessarySimpa false

theorem finer_parts {xs ys : List Int} (h : finerIn xs ys = true) : partIn xs = true ∧ partIn ys = true ∧ xs.length = ys.length ∧ finerB xs ys = true ∧ alike xs ys = true := by
  simp only [finerIn, Bool.and_eq_true] at h
  obtain ⟨ha, hf⟩ := h
  obtain ⟨h1, h2, h3⟩ := alike_iff.1 ha
  exact ⟨h1, h2, h3, hf, ha⟩

theorem finer_mk {xs ys : List Int} (h1 : partIn xs = true) (h2 : partIn ys = true) (h3 : xs.length = ys.length) (h4 : ∀ i k, i < xs.length → k < xs.length → xs.getD i 0 = xs.getD k 0 → ys.getD i 0 = ys.getD k 0) : finerIn xs ys = true := by
  simp only [finerIn, Bool.and_eq_true]
  exact ⟨alike_iff.2 ⟨h1, h2, h3⟩, finer_iff.2 h4⟩

theorem kOut_part {xs : List Int} (h : partIn xs = true) : kOut xs = xs := (kOut_of_ok xs (partIn_ok h)).1

theorem mix_eq_iff {xs ys : List Int} (hx : partIn xs = true) (hy : partIn ys = true) (hl : xs.length = ys.length) {i j : Nat} (hi : i < xs.length) (hj : j < xs.length) :
    (mix 8 xs ys).getD i 0 = (mix 8 xs ys).getD j 0 ↔ xs.getD i 0 = xs.getD j 0 ∧ ys.getD i 0 = ys.getD j 0 := by
  rw [mix_getD _ _ _ _ hi, mix_getD _ _ _ _ hj]
  have h1 := partIn_small hx i hi
  have h2 := partIn_small hx j hj
  have h3 := partIn_small hy i (by omega)
  have h4 := partIn_small hy j (by omega)
  omega

theorem finer_meet {xs ys : List Int} (h : finerIn xs ys = true) : finerMeet xs ys = (xs, true) := by
  obtain ⟨hx, hy, hl, hf, ha⟩ := finer_parts h
  have e : kOut (mix 8 xs ys) = kOut xs := (kOut_pat xs (mix 8 xs ys) (mix_length _ _ _) fun i j hi hj => by
    rw [mix_eq_iff hx hy hl hi hj]
    exact ⟨fun e => ⟨e, finer_iff.1 hf i j hi hj e⟩, fun e => e.1⟩).1
  unfold finerMeet
  rw [if_pos ha, e, kOut_part hx]

theorem alike_symm {xs ys : List Int} (h : alike xs ys = true) : alike ys xs = true := by
  rw [alike_iff] at h ⊢
  exact ⟨h.2.1, h.1, h.2.2.symm⟩

theorem finer_meet' {xs ys : List Int} (h : finerIn xs ys = true) : finerMeet ys xs = (xs, true) := by
  obtain ⟨hx, hy, hl, hf, ha⟩ := finer_parts h
  have e : kOut (mix 8 ys xs) = kOut xs := (kOut_pat xs (mix 8 ys xs) (by rw [mix_length]; exact hl.symm) fun i j hi hj => by
    rw [mix_eq_iff hy hx hl.symm (by omega) (by omega)]
    exact ⟨fun e => ⟨finer_iff.1 hf i j hi hj e, e⟩, fun e => e.2⟩).1
  unfold finerMeet
  rw [if_pos (alike_symm ha), e, kOut_part hx]

theorem join_pat {xs ys r : List Int} (hr : r.length = xs.length) (h : ∀ i j, i < xs.length → j < xs.length → (r.getD i 0 = r.getD j 0 ↔ (joinAll xs ys xs.length xs.length).getD i 0 = (joinAll xs ys xs.length xs.length).getD j 0)) :
    kOut (joinAll xs ys xs.length xs.length) = kOut r :=
  (kOut_pat r (joinAll xs ys xs.length xs.length) (by rw [joinAll_len, hr]) fun i j hi hj => h i j (by omega) (by omega)).1

/-- A partition that keeps together what is together in both tells two things of one block of the join alike. -/
theorem join_coarse {xs ys r : List Int} (hg : ∀ i k, i < xs.length → k < xs.length → tog xs ys i k = true → r.getD i 0 = r.getD k 0) {i j : Nat} (hi : i < xs.length) (hj : j < xs.length)
    (e : (joinAll xs ys xs.length xs.length).getD i 0 = (joinAll xs ys xs.length xs.length).getD j 0) : r.getD i 0 = r.getD j 0 := by
  have hgd := join_good xs ys xs.length (fun k => r.getD k 0) hg xs.length
  have h1 := (hgd.2 i hi).2.2
  have h2 := (hgd.2 j hj).2.2
  rw [e] at h1
  exact h1.symm.trans h2

theorem finer_join {xs ys : List Int} (h : finerIn xs ys = true) : finerJoin xs ys = (ys, true) := by
  obtain ⟨hx, hy, hl, hf, ha⟩ := finer_parts h
  have e : kOut (joinAll xs ys xs.length xs.length) = kOut ys := join_pat hl.symm fun i j hi hj => by
    constructor
    · intro e
      exact join_eq xs ys xs.length hi hj (tog_iff.2 (.inr e))
    · refine join_coarse (fun i k hi hk ht => ?_) hi hj
      rcases tog_iff.1 ht with e | e
      · exact finer_iff.1 hf i k hi hk e
      · exact e
  unfold finerJoin
  rw [if_pos ha, e, kOut_part hy]

theorem meet_finer {xs ys : List Int} (ha : alike xs ys = true) : finerIn (kOut (mix 8 xs ys)) xs = true ∧ finerIn (kOut (mix 8 xs ys)) ys = true := by
  obtain ⟨hx, hy, hl⟩ := alike_iff.1 ha
  have hlen := partIn_len hx
  have hml : (kOut (mix 8 xs ys)).length = xs.length := by rw [kOut_length, mix_length]
  have hp : partIn (kOut (mix 8 xs ys)) = true := partIn_kOut (by rw [mix_length]; exact hlen.1) (by rw [mix_length]; exact hlen.2)
  have hk : ∀ i k, i < (kOut (mix 8 xs ys)).length → k < (kOut (mix 8 xs ys)).length → (kOut (mix 8 xs ys)).getD i 0 = (kOut (mix 8 xs ys)).getD k 0 → xs.getD i 0 = xs.getD k 0 ∧ ys.getD i 0 = ys.getD k 0 := by
    intro i k hi hk e
    rw [hml] at hi hk
    have := ((kOut_inv (mix 8 xs ys)).2 i k (by rw [mix_length]; exact hi) (by rw [mix_length]; exact hk)).2 e
    exact (mix_eq_iff hx hy hl hi hk).1 this
  exact ⟨finer_mk hp hx hml fun i k hi hk' e => (hk i k hi hk' e).1, finer_mk hp hy (hml.trans hl) fun i k hi hk' e => (hk i k hi hk' e).2⟩

theorem join_finer {xs ys : List Int} (ha : alike xs ys = true) : finerIn xs (kOut (joinAll xs ys xs.length xs.length)) = true ∧ finerIn ys (kOut (joinAll xs ys xs.length xs.length)) = true := by
  obtain ⟨hx, hy, hl⟩ := alike_iff.1 ha
  have hlen := partIn_len hx
  have hjl := joinAll_len xs ys xs.length xs.length
  have hml : (kOut (joinAll xs ys xs.length xs.length)).length = xs.length := by rw [kOut_length, hjl]
  have hp : partIn (kOut (joinAll xs ys xs.length xs.length)) = true := partIn_kOut (by rw [hjl]; exact hlen.1) (by rw [hjl]; exact hlen.2)
  have hk : ∀ i k, i < xs.length → k < xs.length → tog xs ys i k = true → (kOut (joinAll xs ys xs.length xs.length)).getD i 0 = (kOut (joinAll xs ys xs.length xs.length)).getD k 0 := by
    intro i k hi hk ht
    exact ((kOut_inv _).2 i k (by rw [hjl]; exact hi) (by rw [hjl]; exact hk)).1 (join_eq xs ys xs.length hi hk ht)
  exact ⟨finer_mk hx hp hml.symm fun i k hi hk' e => hk i k hi hk' (tog_iff.2 (.inl e)), finer_mk hy hp (by omega) fun i k hi hk' e => hk i k (by omega) (by omega) (tog_iff.2 (.inr e))⟩

theorem sum_ge_len : ∀ l : List Int, (∀ y, y < l.length → 1 ≤ l.getD y 0) → (l.length : Int) ≤ l.sum := by
  refine snoc_induction (fun _ => Int.le_refl _) fun l x ih h => ?_
  have h1 := ih fun y hy => by have := h y (by simp; omega); rwa [getD_snoc_lt _ _ _ hy] at this
  have h2 := h l.length (by simp)
  rw [getD_snoc_eq] at h2
  rw [List.sum_append, List.length_append]
  simp
  omega

theorem inner_sum {xs ys : List Int} (h : finerIn xs ys = true) : (inner xs ys).sum = pSize xs := by
  obtain ⟨hx, hy, hl, _⟩ := finer_parts h
  have bx := pSize_bd (partIn_small hx)
  have by' := pSize_bd (partIn_small hy)
  obtain ⟨p, hp⟩ := Int.eq_ofNat_of_zero_le bx.1
  obtain ⟨q, hq⟩ := Int.eq_ofNat_of_zero_le by'.1
  have e : inner xs ys = innerTo xs ys q p := by unfold inner; rw [hp, hq, Int.toNat_natCast, Int.toNat_natCast]
  rw [e, innerTo_sum hx hy hl.symm q p hp hq p (Nat.le_refl _), hp]

theorem finer_size {xs ys : List Int} (h : finerIn xs ys = true) : pSize ys ≤ pSize xs := by
  have h1 := sum_ge_len (inner xs ys) (inner_facts h).2
  rw [inner_sum h, inner_length] at h1
  have := (pSize_bd (partIn_small (finer_parts h).2.1)).1
  omega

/-- The product tells how many more blocks there are, as far as none or one. -/
theorem prod_small : ∀ l : List Int, (∀ y, y < l.length → 1 ≤ l.getD y 0 ∧ l.getD y 0 ≤ 8) →
    1 ≤ prodOf bellN l ∧ (l.length : Int) ≤ l.sum ∧ (prodOf bellN l = 1 ↔ l.sum = l.length) ∧ (prodOf bellN l = 2 ↔ l.sum = l.length + 1) := by
  refine snoc_induction (fun _ => by simp [prodOf]) fun l x ih h => ?_
  obtain ⟨h1, h2, h3, h4⟩ := ih fun y hy => by have := h y (by simp; omega); rwa [getD_snoc_lt _ _ _ hy] at this
  have hx := h l.length (by simp)
  rw [getD_snoc_eq] at hx
  rw [prodOf_snoc, List.sum_append, List.length_append]
  have e : ([x] : List Int).sum = x := by simp
  have e2 : ([x] : List Int).length = 1 := rfl
  rw [e, e2]
  generalize prodOf bellN l = w at *
  generalize l.sum = s at *
  generalize l.length = n at *
  have hc : x = 1 ∨ x = 2 ∨ 3 ≤ x := by omega
  rcases hc with rfl | rfl | hc
  · have : bellN (1 : Int).toNat = 1 := by decide
    rw [this]
    omega
  · have : bellN (2 : Int).toNat = 2 := by decide
    rw [this]
    omega
  · have hb : 5 ≤ bellN x.toNat := by
      have : ∀ c, c < 9 → 3 ≤ c → 5 ≤ bellN c := by decide +kernel
      exact this x.toNat (by omega) (by omega)
    have h5 : 1 * 5 ≤ w * bellN x.toNat := Int.mul_le_mul h1 hb (by omega) (by omega)
    omega

theorem under_both {xs ys : List Int} (h : finerIn xs ys = true) (he : pSize xs = pSize ys) : xs = ys := by
  obtain ⟨hx, hy, hl, hf, ha⟩ := finer_parts h
  have hge := inner_facts h
  have hsum := inner_sum h
  have hlen : ((inner xs ys).length : Int) = (inner xs ys).sum := by
    rw [hsum, inner_length]
    have := (pSize_bd (partIn_small hy)).1
    omega
  have hone : ∀ y, y < (inner xs ys).length → (inner xs ys).getD y 0 = 1 := by
    have : ∀ l : List Int, (∀ y, y < l.length → 1 ≤ l.getD y 0) → (l.length : Int) = l.sum → ∀ y, y < l.length → l.getD y 0 = 1 := by
      refine snoc_induction (fun _ _ y hy => by simp at hy) fun l x ih h he y hy => ?_
      have h0 : ∀ y, y < l.length → 1 ≤ l.getD y 0 := fun y hy => by have := h y (by simp; omega); rwa [getD_snoc_lt _ _ _ hy] at this
      have h1 := sum_ge_len l h0
      have h2 := h l.length (by simp)
      rw [getD_snoc_eq] at h2
      rw [List.sum_append, List.length_append] at he
      simp at he
      by_cases e : y < l.length
      · rw [getD_snoc_lt _ _ _ e]
        exact ih h0 (by omega) y e
      · have : y = l.length := by simp at hy; omega
        rw [this, getD_snoc_eq]
        omega
    exact this _ hge.2 hlen
  have hback : ∀ i k, i < xs.length → k < xs.length → ys.getD i 0 = ys.getD k 0 → xs.getD i 0 = xs.getD k 0 := by
    intro i k hi hk e
    refine Classical.byContradiction fun hne => ?_
    obtain ⟨a, ha'⟩ := Int.eq_ofNat_of_zero_le (partIn_small hx i hi).1
    obtain ⟨b, hb'⟩ := Int.eq_ofNat_of_zero_le (partIn_small hx k hk).1
    obtain ⟨y, hy'⟩ := Int.eq_ofNat_of_zero_le (partIn_small hy i (by omega)).1
    have bx := pSize_bd (partIn_small hx)
    have by' := pSize_bd (partIn_small hy)
    obtain ⟨p, hp⟩ := Int.eq_ofNat_of_zero_le bx.1
    obtain ⟨q, hq⟩ := Int.eq_ofNat_of_zero_le by'.1
    have hyq := lt_pSize ys i (by omega)
    have hap := lt_pSize xs i hi
    have hbp := lt_pSize xs k hk
    have h1 := hone y (by rw [inner_length]; omega)
    have e2 : inner xs ys = innerTo xs ys q p := by unfold inner; rw [hp, hq, Int.toNat_natCast, Int.toNat_natCast]
    rw [e2, innerTo_getD _ _ _ _ _ (by omega)] at h1
    have hu : ∀ (v i : Nat), i < xs.length → xs.getD i 0 = (v : Int) → ys.getD i 0 = (y : Int) → under xs ys y v = true := by
      intro v i hi hv hyv
      have hm : (v : Int) ∈ xs := mem_of_getD hi hv
      simp only [under, decide_eq_true_eq]
      rw [← hyv]
      exact finer_iff.1 hf _ _ (List.idxOf_lt_length_of_mem hm) hi (by rw [getD_idxOf hm, hv])
    have ma : a ∈ (List.range p).filter (under xs ys y) := by
      rw [List.mem_filter]; exact ⟨by simp; omega, hu a i hi ha' hy'⟩
    have mb : b ∈ (List.range p).filter (under xs ys y) := by
      rw [List.mem_filter]; exact ⟨by simp; omega, hu b k hk hb' (by rw [← e]; exact hy')⟩
    have hl1 : ((List.range p).filter (under xs ys y)).length = 1 := by omega
    obtain ⟨z, hz⟩ := List.length_eq_one_iff.1 hl1
    rw [hz] at ma mb
    have := List.mem_singleton.1 ma
    have := List.mem_singleton.1 mb
    omega
  have e : kOut ys = kOut xs := (kOut_pat xs ys hl.symm fun i j hi hj => ⟨fun e => finer_iff.1 hf i j hi hj e, hback i j hi hj⟩).1
  rw [kOut_part hx, kOut_part hy] at e
  exact e.symm

theorem merges_len (xs : List Int) (p : Nat) (hp : p ≤ 8) : (mergesTo xs p p).length = p * (p - 1) / 2 := by
  have h : ∀ k, (mergesTo xs p k).length = ((List.range k).map fun x => p - 1 - x).sum := by
    intro k
    induction k with
    | zero => rfl
    | succ k ih =>
      rw [mergesTo_succ, List.length_append, mrow_length, ih, List.range_succ, List.map_append, List.sum_append]
      simp
  rw [h]
  have : ∀ p, p < 9 → ((List.range p).map fun x => p - 1 - x).sum = p * (p - 1) / 2 := by decide
  exact this p (by omega)

theorem merges_each (xs : List Int) (p : Nat) (r : List Int) : ∀ k, r ∈ mergesTo xs p k → ∃ x y : Nat, x < y ∧ y < p ∧ r = kOut (retold xs (x : Int) (y : Int)) := by
  intro k h
  unfold mergesTo mrow at h
  rw [List.mem_flatMap] at h
  obtain ⟨x, hx, h⟩ := h
  rw [List.mem_map] at h
  obtain ⟨i, hi, e⟩ := h
  have : i < p - 1 - x := by simpa using hi
  exact ⟨x, x + 1 + i, by omega, by omega, e.symm⟩

theorem merge_finer {xs : List Int} (hx : partIn xs = true) (l g : Int) : finerIn xs (kOut (retold xs l g)) = true := by
  have hlen := partIn_len hx
  have hml : (kOut (retold xs l g)).length = xs.length := by rw [kOut_length, retold_length]
  refine finer_mk hx (partIn_kOut (by rw [retold_length]; exact hlen.1) (by rw [retold_length]; exact hlen.2)) hml.symm fun i k hi hk e => ?_
  refine ((kOut_inv _).2 i k (by rw [retold_length]; exact hi) (by rw [retold_length]; exact hk)).1 ?_
  rw [retold_getD _ _ _ _ hi, retold_getD _ _ _ _ hk, e]

end Go.Proofs.Ytbmpchpcihnbdaa
