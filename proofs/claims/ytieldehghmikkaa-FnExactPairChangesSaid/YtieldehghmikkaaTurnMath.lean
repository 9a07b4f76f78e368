/-
  Plain lists: a partition turned twice is the same, and has blocks of the same sizes. No program is named here.
-/
import Derived.Test.YtieldehghmikkaaSpecType
import Derived.Test.YtieldehghmikkaaPartOk
namespace Go.Proofs.Ytieldehghmikkaa
set_option linter.unusedSimpArgs false
set_option linter.unusedVariables false
set_option linter.unnecessarySimpa false

theorem mem_iff_getD {f : List Int} {x : Int} : x ∈ f ↔ ∃ j, j < f.length ∧ f.getD j 0 = x := by
  constructor
  · intro h
    exact ⟨f.idxOf x, List.idxOf_lt_length_of_mem h, getD_idxOf h⟩
  · rintro ⟨j, h, e⟩
    exact mem_of_getD h e

/-- What is equal to what tells how things are numbered. -/
theorem kOut_pat : ∀ f g : List Int, g.length = f.length → (∀ i j, i < f.length → j < f.length → (f.getD i 0 = f.getD j 0 ↔ g.getD i 0 = g.getD j 0)) → kOut g = kOut f ∧ kNext g = kNext f := by
  refine snoc_induction ?_ ?_
  · intro g hg _
    rw [List.eq_nil_of_length_eq_zero hg]
    exact ⟨rfl, rfl⟩
  · intro f x ih g' hg hp
    rcases List.eq_nil_or_concat g' with h | ⟨g, y, h⟩
    · rw [h] at hg; simp at hg
    subst h
    simp only [List.concat_eq_append] at hg hp ⊢
    have hl : g.length = f.length := by simpa using hg
    have F : ∀ j, j < f.length → (f ++ [x]).getD j 0 = f.getD j 0 := fun j hj => getD_snoc_lt f x j hj
    have F1 : (f ++ [x]).getD f.length 0 = x := getD_snoc_eq f x
    have G : ∀ j, j < f.length → (g ++ [y]).getD j 0 = g.getD j 0 := fun j hj => getD_snoc_lt g y j (by omega)
    have G1 : (g ++ [y]).getD f.length 0 = y := by rw [← hl]; exact getD_snoc_eq g y
    have hin : ∀ i j, i < f.length → j < f.length → (f.getD i 0 = f.getD j 0 ↔ g.getD i 0 = g.getD j 0) := by
      intro i j hi hj
      have := hp i j (by simp; omega) (by simp; omega)
      rwa [F i hi, F j hj, G i hi, G j hj] at this
    have hla : ∀ i, i < f.length → (f.getD i 0 = x ↔ g.getD i 0 = y) := by
      intro i hi
      have := hp i f.length (by simp; omega) (by simp)
      rwa [F i hi, F1, G i hi, G1] at this
    obtain ⟨e1, e2⟩ := ih g hl hin
    by_cases h : x ∈ f
    · have hi := List.idxOf_lt_length_of_mem h
      have hy1 := (hla _ hi).1 (getD_idxOf h)
      have hy : y ∈ g := mem_of_getD (by omega) hy1
      have hi' := List.idxOf_lt_length_of_mem hy
      have hk := ((kOut_inv g).2 _ _ (by omega) hi').1 (hy1.trans (getD_idxOf hy).symm)
      rw [(kOut_mem h).1, (kOut_mem h).2, (kOut_mem hy).1, (kOut_mem hy).2, ← hk, e1, e2]
      exact ⟨rfl, rfl⟩
    · have hy : y ∉ g := by
        intro hy
        have hi' := List.idxOf_lt_length_of_mem hy
        exact h (mem_of_getD (by omega) ((hla _ (by omega)).2 (getD_idxOf hy)))
      rw [(kOut_new h).1, (kOut_new h).2, (kOut_new hy).1, (kOut_new hy).2, e1, e2]
      exact ⟨rfl, rfl⟩

/-- The numbers given are all from 0 on and below the next one. -/
theorem kOut_all : ∀ (f : List Int) (v : Int), v ∈ kOut f ↔ 0 ≤ v ∧ v < kNext f := by
  refine snoc_induction (fun v => by simp [kOut, kNext, kfold]) fun f x ih v => ?_
  have hb := kNext_bd f
  by_cases h : x ∈ f
  · have hi := List.idxOf_lt_length_of_mem h
    have hm : (kOut f).getD (f.idxOf x) 0 ∈ kOut f := mem_of_getD (by rw [kOut_length]; exact hi) rfl
    rw [(kOut_mem h).1, (kOut_mem h).2, ← ih v, List.mem_append]
    constructor
    · rintro (h1 | h1)
      · exact h1
      · rw [List.mem_singleton.1 h1]; exact hm
    · exact .inl
  · rw [(kOut_new h).1, (kOut_new h).2, List.mem_append, ih v, List.mem_singleton]
    omega

def endFrom : Int → List Int → Int
  | b, [] => b
  | b, x :: xs => endFrom (if x = b then b + 1 else b) xs

theorem okFrom_append : ∀ (f : List Int) (b x : Int), okFrom b (f ++ [x]) = (okFrom b f && (decide (0 ≤ x) && decide (x ≤ endFrom b f))) ∧ endFrom b (f ++ [x]) = if x = endFrom b f then endFrom b f + 1 else endFrom b f := by
  intro f
  induction f with
  | nil => intro b x; simp only [List.nil_append, okFrom, endFrom, Bool.and_true, Bool.true_and]; exact ⟨rfl, rfl⟩
  | cons y f ih =>
    intro b x
    have := ih (if y = b then b + 1 else b) x
    simp only [List.cons_append, okFrom, endFrom, this.1, this.2, Bool.and_assoc]
    exact ⟨rfl, rfl⟩

theorem okFrom_kOut : ∀ f : List Int, okFrom 0 (kOut f) = true ∧ endFrom 0 (kOut f) = kNext f := by
  refine snoc_induction ⟨rfl, rfl⟩ fun f x ih => ?_
  have hb := kNext_bd f
  by_cases h : x ∈ f
  · have hi := List.idxOf_lt_length_of_mem h
    have hr := (kOut_inv f).1 _ hi
    have := okFrom_append (kOut f) 0 ((kOut f).getD (f.idxOf x) 0)
    rw [(kOut_mem h).1, (kOut_mem h).2, this.1, this.2, ih.1, ih.2, if_neg (by omega)]
    refine ⟨?_, rfl⟩
    simp only [Bool.and_eq_true, decide_eq_true_eq]
    exact ⟨trivial, by omega, by omega⟩
  · have := okFrom_append (kOut f) 0 (kNext f)
    rw [(kOut_new h).1, (kOut_new h).2, this.1, this.2, ih.1, ih.2, if_pos rfl]
    refine ⟨?_, rfl⟩
    simp only [Bool.and_eq_true, decide_eq_true_eq]
    exact ⟨trivial, by omega, by omega⟩

theorem kOut_of_ok : ∀ f : List Int, okFrom 0 f = true → kOut f = f ∧ kNext f = endFrom 0 f := by
  refine snoc_induction (fun _ => ⟨rfl, rfl⟩) fun f x ih h => ?_
  have ha := okFrom_append f 0 x
  rw [ha.1] at h
  simp only [Bool.and_eq_true, decide_eq_true_eq] at h
  obtain ⟨h1, h2, h3⟩ := h
  obtain ⟨e1, e2⟩ := ih h1
  rw [← e2] at h3
  rw [ha.2, ← e2]
  by_cases hm : x ∈ f
  · have hx := (kOut_all f x).1 (by rw [e1]; exact hm)
    rw [(kOut_mem hm).1, (kOut_mem hm).2, e1, getD_idxOf hm, if_neg (by omega)]
    exact ⟨rfl, rfl⟩
  · have hx : x = kNext f := by
      by_cases e : x = kNext f
      · exact e
      · exact absurd (by have := (kOut_all f x).2 ⟨h2, by omega⟩; rwa [e1] at this) hm
    rw [(kOut_new hm).1, (kOut_new hm).2, e1, if_pos hx, hx]
    exact ⟨rfl, rfl⟩

theorem partIn_kOut {f : List Int} (h1 : 1 ≤ f.length) (h2 : f.length ≤ 8) : partIn (kOut f) = true := by
  simp only [partIn, Bool.and_eq_true, decide_eq_true_eq, kOut_length]
  exact ⟨⟨h1, h2⟩, (okFrom_kOut f).1⟩

theorem getD_reverse (xs : List Int) (j : Nat) (h : j < xs.length) : xs.reverse.getD j 0 = xs.getD (xs.length - 1 - j) 0 := by
  simp [List.getD, List.getElem?_reverse h]

/-- Turned twice is not turned. -/
theorem turned_twice {xs : List Int} (h : partIn xs = true) : kOut (kOut xs.reverse).reverse = xs := by
  have hk := (kOut_of_ok xs (partIn_ok h)).1
  have hl : (kOut xs.reverse).reverse.length = xs.length := by simp [kOut_length]
  refine ((kOut_pat xs _ hl fun i j hi hj => ?_).1).trans hk
  have hkl : (kOut xs.reverse).length = xs.length := by simp [kOut_length]
  rw [getD_reverse _ i (by omega), getD_reverse _ j (by omega), hkl]
  have := (kOut_inv xs.reverse).2 (xs.length - 1 - i) (xs.length - 1 - j) (by simp; omega) (by simp; omega)
  rw [← this, getD_reverse _ _ (by omega), getD_reverse _ _ (by omega), show xs.length - 1 - (xs.length - 1 - i) = i by omega, show xs.length - 1 - (xs.length - 1 - j) = j by omega]

theorem partTurned_twice {xs : List Int} (h : partIn xs = true) : partTurned (partTurned xs).1 = (xs, true) := by
  have hl := partIn_len h
  have e : (partTurned xs).1 = kOut xs.reverse := by simp [partTurned, h]
  rw [e]
  unfold partTurned
  rw [if_pos (partIn_kOut (by simpa using hl.1) (by simpa using hl.2)), turned_twice h]

theorem cntAt_count (xs : List Int) (b : Nat) : ∀ k, k ≤ xs.length → cntAt xs b k = (xs.take k).count (b : Int) := by
  intro k
  induction k with
  | zero => intro _; simp [cntAt]
  | succ k ih =>
    intro h
    rw [take_snoc xs k (by omega), List.count_append, ← ih (by omega)]
    simp only [cntAt, List.count_singleton]
    by_cases e : xs.getD k 0 = b
    · rw [e]
      simp
    · simp only [if_neg e]
      have : (xs.getD k 0 == (b : Int)) = false := by simpa using e
      rw [this]
      simp

theorem sizeFrom_append : ∀ (f : List Int) (n x : Int), sizeFrom n (f ++ [x]) = max (sizeFrom n f) (x + 1) := by
  intro f
  induction f with
  | nil => intro n x; simp [sizeFrom]
  | cons y f ih => intro n x; simp only [List.cons_append, sizeFrom]; exact ih _ _

theorem pSize_kOut : ∀ f : List Int, pSize (kOut f) = kNext f := by
  refine snoc_induction rfl fun f x ih => ?_
  have hb := kNext_bd f
  unfold pSize at *
  by_cases h : x ∈ f
  · have hr := (kOut_inv f).1 _ (List.idxOf_lt_length_of_mem h)
    rw [(kOut_mem h).1, (kOut_mem h).2, sizeFrom_append, ih]
    omega
  · rw [(kOut_new h).1, (kOut_new h).2, sizeFrom_append, ih]
    omega

/-- The sizes of the blocks of a list that is numbered from 0 on: how often each number is there. -/
theorem sizes_kOut (f : List Int) : sizes (kOut f) = (iota 0 (kNext f).toNat).map fun v => ((kOut f).count v : Int) := by
  unfold sizes iota
  rw [pSize_kOut, List.map_map]
  refine List.map_congr_left fun b _ => ?_
  simp only [Function.comp]
  rw [cntAt_count _ _ _ (Nat.le_refl _), List.take_length]
  simp

theorem iota_nodup (n : Nat) : (iota 0 n).Nodup := by
  unfold iota List.Nodup
  rw [List.pairwise_map]
  refine List.Pairwise.imp ?_ (List.nodup_range (n := n))
  intro a b h e
  exact h (by omega)

theorem mem_iota (n : Int) (v : Int) (hn : 0 ≤ n) : v ∈ iota 0 n.toNat ↔ 0 ≤ v ∧ v < n := by
  simp only [iota, List.mem_map, List.mem_range]
  constructor
  · rintro ⟨j, hj, e⟩
    omega
  · rintro ⟨h1, h2⟩
    exact ⟨v.toNat, by omega, by omega⟩

/-- Blocks numbered anew are as large as they were. -/
theorem sizes_perm (f r : List Int) (hr : r.Perm (kOut f)) : (sizes (kOut r)).Perm (sizes (kOut f)) := by
  let g : Int → Int := fun v => (kOut r).getD (r.idxOf v) 0
  have hg : ∀ v, v ∈ r → g v ∈ kOut r := fun v hv => mem_of_getD (by rw [kOut_length]; exact List.idxOf_lt_length_of_mem hv) rfl
  have hinj : ∀ u v, u ∈ r → v ∈ r → (g u = g v ↔ u = v) := by
    intro u v hu hv
    have := (kOut_inv r).2 _ _ (List.idxOf_lt_length_of_mem hu) (List.idxOf_lt_length_of_mem hv)
    rw [getD_idxOf hu, getD_idxOf hv] at this
    exact this.symm
  have hat : ∀ j, j < r.length → (kOut r).getD j 0 = g (r.getD j 0) := by
    intro j hj
    have hm : r.getD j 0 ∈ r := mem_of_getD hj rfl
    exact ((kOut_inv r).2 _ _ hj (List.idxOf_lt_length_of_mem hm)).1 (getD_idxOf hm).symm
  have hmap : kOut r = r.map g := by
    refine ext_getD (by simp [kOut_length]) fun j hj => ?_
    rw [kOut_length] at hj
    rw [hat j hj]
    simp [List.getD, hj]
  have hcount : ∀ u, u ∈ r → (kOut r).count (g u) = (kOut f).count u := by
    intro u hu
    rw [← hr.count_eq u, hmap, List.count_eq_countP, List.count_eq_countP, List.countP_map]
    refine List.countP_congr fun x hx => ?_
    simp only [Function.comp, beq_iff_eq]
    exact hinj x u hx hu
  have hmem : ∀ v, v ∈ r ↔ 0 ≤ v ∧ v < kNext f := fun v => by rw [hr.mem_iff, kOut_all]
  have hperm : (iota 0 (kNext r).toNat).Perm ((iota 0 (kNext f).toNat).map g) := by
    refine (List.perm_ext_iff_of_nodup (iota_nodup _) ?_).2 fun v => ?_
    · unfold List.Nodup
      rw [List.pairwise_map]
      refine List.Pairwise.imp_of_mem ?_ (iota_nodup (kNext f).toNat)
      intro a b ha hb h e
      rw [mem_iota _ _ (kNext_bd f).1, ← hmem] at ha hb
      exact h ((hinj a b ha hb).1 e)
    · rw [mem_iota _ _ (kNext_bd r).1, ← kOut_all, List.mem_map]
      constructor
      · intro h
        rw [hmap, List.mem_map] at h
        obtain ⟨u, hu, e⟩ := h
        exact ⟨u, (mem_iota _ _ (kNext_bd f).1).2 ((hmem u).1 hu), e⟩
      · rintro ⟨u, hu, e⟩
        rw [← e]
        exact hg u ((hmem u).2 ((mem_iota _ _ (kNext_bd f).1).1 hu))
  rw [sizes_kOut r, sizes_kOut f]
  refine (hperm.map _).trans (List.Perm.of_eq ?_)
  rw [List.map_map]
  refine List.map_congr_left fun u hu => ?_
  simp only [Function.comp]
  rw [hcount u ((hmem u).2 ((mem_iota _ _ (kNext_bd f).1).1 hu))]

/-- A partition turned has blocks as large. -/
theorem turned_type {xs : List Int} (h : partIn xs = true) : partType (partTurned xs).1 = partType xs := by
  have hl := partIn_len h
  have hk := (kOut_of_ok xs (partIn_ok h)).1
  have e : (partTurned xs).1 = kOut xs.reverse := by simp [partTurned, h]
  rw [e]
  unfold partType
  rw [if_pos h, if_pos (partIn_kOut (by simpa using hl.1) (by simpa using hl.2))]
  have hp := sizes_perm xs xs.reverse (by rw [hk]; exact List.reverse_perm xs)
  rw [hk] at hp
  rw [← desc_unique (sizes xs) (desc (sizes (kOut xs.reverse))) ((desc_perm _).trans hp) (desc_pairwise _)]

end Go.Proofs.Ytieldehghmikkaa
