/-
  Plain lists: how many blocks of one partition each block of a coarser one has; counted in two ways. No program is named here.
-/
import Derived.Test.YtbmpchpcihnbdaaTurnMath
import Derived.Test.YtbmpchpcihnbdaaFinIn
namespace Go.Proofs.Ytbmpchpcihnbdaa
set_option linter.unusedSimpArgs false
set_option linter.unusedVariables false
set_option linter.unnecessarySimpa false

theorem mem_part {xs : List Int} (h : partIn xs = true) (v : Int) : v ∈ xs ↔ 0 ≤ v ∧ v < pSize xs := by
  have e := (kOut_of_ok xs (partIn_ok h)).1
  have h1 := kOut_all xs v
  have h2 := pSize_kOut xs
  rw [e] at h1 h2
  rw [h1, h2]

/-- Whether the block v of xs lies in the block y of ys, asked at its first thing. -/
def under (xs ys : List Int) (y v : Nat) : Bool := decide (ys.getD (xs.idxOf (v : Int)) 0 = (y : Int))
def innerTo (xs ys : List Int) (q k : Nat) : List Int := (List.range q).map fun y => (((List.range k).filter (under xs ys y)).length : Int)
def inner (xs ys : List Int) : List Int := innerTo xs ys (pSize ys).toNat (pSize xs).toNat

theorem innerTo_length (xs ys : List Int) (q k : Nat) : (innerTo xs ys q k).length = q := by simp [innerTo]
theorem inner_length (xs ys : List Int) : (inner xs ys).length = (pSize ys).toNat := innerTo_length _ _ _ _
theorem innerTo_zero (xs ys : List Int) (q : Nat) : innerTo xs ys q 0 = List.replicate q 0 := by
  apply List.ext_getElem <;> simp [innerTo]
theorem innerTo_getD (xs ys : List Int) (q k y : Nat) (h : y < q) : (innerTo xs ys q k).getD y 0 = (((List.range k).filter (under xs ys y)).length : Int) := by
  simp [innerTo, List.getD, h]
theorem under_len_succ (xs ys : List Int) (y k : Nat) : ((List.range (k + 1)).filter (under xs ys y)).length = ((List.range k).filter (under xs ys y)).length + if ys.getD (xs.idxOf (k : Int)) 0 = (y : Int) then 1 else 0 := by
  rw [List.range_succ, List.filter_append, List.length_append]
  congr 1
  by_cases h : ys.getD (xs.idxOf (k : Int)) 0 = (y : Int)
  · have hu : under xs ys y k = true := decide_eq_true h
    rw [if_pos h]
    simp [List.filter, hu]
  · have hu : under xs ys y k = false := decide_eq_false h
    rw [if_neg h]
    simp [List.filter, hu]

theorem innerTo_step (xs ys : List Int) (q k z : Nat) (hz : z < q) (h : ys.getD (xs.idxOf (k : Int)) 0 = (z : Int)) : (innerTo xs ys q k).set z ((innerTo xs ys q k).getD z 0 + 1) = innerTo xs ys q (k + 1) := by
  apply List.ext_getElem
  · simp [innerTo_length]
  · intro j h1 h2
    simp [innerTo_length] at h1 h2
    rw [List.getElem_set]
    by_cases e : z = j
    · subst e
      rw [if_pos rfl, innerTo_getD _ _ _ _ _ hz]
      simp only [innerTo, List.getElem_map, List.getElem_range, under_len_succ, if_pos h]
      omega
    · rw [if_neg e]
      have : ¬ ys.getD (xs.idxOf (k : Int)) 0 = (j : Int) := by omega
      simp only [innerTo, List.getElem_map, List.getElem_range, under_len_succ, if_neg this]
      omega

theorem innerTo_bd (xs ys : List Int) (q k y : Nat) (h : y < q) : 0 ≤ (innerTo xs ys q k).getD y 0 ∧ (innerTo xs ys q k).getD y 0 ≤ k := by
  rw [innerTo_getD _ _ _ _ _ h]
  have := List.length_filter_le (under xs ys y) (List.range k)
  rw [List.length_range] at this
  omega

/-- The numbers in xs of the things of a list, as a set. -/
def overL (xs : List Int) (L : List Int) : Nat := L.foldl (fun s t => s ||| 2 ^ (xs.getD t.toNat 0).toNat) 0

theorem overL_snoc (xs L : List Int) (t : Int) : overL xs (L ++ [t]) = overL xs L ||| 2 ^ (xs.getD t.toNat 0).toNat := by simp [overL, List.foldl_append]

def ThingsOf (xs L : List Int) : Prop := ∀ t ∈ L, 0 ≤ t ∧ t.toNat < xs.length

theorem overL_256 (xs : List Int) (hs : Small xs) : ∀ L, ThingsOf xs L → overL xs L < 256 := by
  refine snoc_induction (fun _ => by simp [overL]) fun L t ih h => ?_
  rw [overL_snoc]
  have ht := h t (by simp)
  have hx := hs _ ht.2
  exact or_lt _ (ih fun u hu => h u (by simp [hu])) _ (by omega)

theorem overL_bit (xs : List Int) (v : Nat) : ∀ L, (overL xs L).testBit v = true ↔ ∃ t ∈ L, (xs.getD t.toNat 0).toNat = v := by
  refine snoc_induction (by simp [overL]) fun L t ih => ?_
  rw [overL_snoc, Nat.testBit_or, Nat.testBit_two_pow]
  simp only [Bool.or_eq_true, ih, decide_eq_true_eq, List.mem_append, List.mem_singleton]
  constructor
  · rintro (⟨u, hu, e⟩ | e)
    · exact ⟨u, .inl hu, e⟩
    · exact ⟨t, .inr rfl, e⟩
  · rintro ⟨u, hu | rfl, e⟩
    · exact .inl ⟨u, hu, e⟩
    · exact .inr e

theorem mem_blkAt (xs : List Int) (b : Nat) (t : Int) : ∀ k, t ∈ blkAt xs b k ↔ ∃ i, i < k ∧ t = (i : Int) ∧ xs.getD i 0 = (b : Int) := by
  intro k
  induction k with
  | zero => simp [blkAt]
  | succ k ih =>
    unfold blkAt
    split
    · rename_i hk
      rw [List.mem_append, ih, List.mem_singleton]
      constructor
      · rintro (⟨i, h1, h2⟩ | h)
        · exact ⟨i, by omega, h2⟩
        · exact ⟨k, by omega, h, hk⟩
      · rintro ⟨i, h1, h2, h3⟩
        by_cases e : i = k
        · subst e; exact .inr h2
        · exact .inl ⟨i, by omega, h2, h3⟩
    · rename_i hk
      rw [ih]
      constructor
      · rintro ⟨i, h1, h2⟩
        exact ⟨i, by omega, h2⟩
      · rintro ⟨i, h1, h2, h3⟩
        by_cases e : i = k
        · subst e; exact absurd h3 hk
        · exact ⟨i, by omega, h2, h3⟩

theorem blkAt_things (xs ys : List Int) (b : Nat) (hl : ys.length = xs.length) : ThingsOf xs (blkAt ys b ys.length) := fun t ht => by
  obtain ⟨i, h1, rfl, _⟩ := (mem_blkAt ys b t _).1 ht
  rw [Int.toNat_natCast]
  omega

theorem filter_range_le (p n : Nat) (h : p ≤ n) (f g : Nat → Bool) (h1 : ∀ v, v < p → f v = g v) (h2 : ∀ v, p ≤ v → f v = false) : (List.range n).filter f = (List.range p).filter g := by
  obtain ⟨d, rfl⟩ : ∃ d, n = p + d := ⟨n - p, by omega⟩
  rw [List.range_add, List.filter_append]
  have e1 : (List.range p).filter f = (List.range p).filter g := by
    apply List.filter_congr
    intro v hv
    exact h1 v (by simpa using hv)
  have e2 : ((List.range d).map (p + ·)).filter f = [] := by
    rw [List.filter_eq_nil_iff]
    intro v hv
    obtain ⟨u, _, rfl⟩ := List.mem_map.1 hv
    rw [h2 _ (by omega)]
    simp
  rw [e1, e2, List.append_nil]

theorem cnt_over {xs ys : List Int} (hx : partIn xs = true) (hl : ys.length = xs.length) (hf : finerB xs ys = true) (y p : Nat) (hp : pSize xs = p) :
    cnt (overL xs (blkAt ys y ys.length)) = ((List.range p).filter (under xs ys y)).length := by
  have hsm := partIn_small hx
  have hbd := pSize_bd hsm
  unfold cnt
  rw [filter_range_le p 8 (by omega) _ (under xs ys y)]
  · intro v hv
    have hm : (v : Int) ∈ xs := (mem_part hx v).2 (by omega)
    have hi := List.idxOf_lt_length_of_mem hm
    have hg := getD_idxOf hm
    rw [Bool.eq_iff_iff, overL_bit]
    simp only [under, decide_eq_true_eq]
    constructor
    · rintro ⟨t, ht, e⟩
      obtain ⟨i, h1, rfl, h3⟩ := (mem_blkAt ys y t _).1 ht
      rw [Int.toNat_natCast] at e
      have h0 := (hsm i (by omega)).1
      rw [← h3]
      exact finer_iff.1 hf _ _ hi (by omega) (by rw [hg]; omega)
    · intro e
      refine ⟨_, (mem_blkAt ys y _ _).2 ⟨xs.idxOf (v : Int), by omega, rfl, e⟩, ?_⟩
      rw [Int.toNat_natCast, hg, Int.toNat_natCast]
  · intro v hv
    cases h : (overL xs (blkAt ys y ys.length)).testBit v
    · rfl
    · obtain ⟨t, ht, e⟩ := (overL_bit xs v _).1 h
      obtain ⟨h1, h2⟩ := blkAt_things xs ys y hl t ht
      have := lt_pSize xs _ h2
      have := (hsm _ h2).1
      omega

theorem inner_get {xs ys : List Int} (hx : partIn xs = true) (hl : ys.length = xs.length) (hf : finerB xs ys = true) (y q : Nat) (hq : pSize ys = q) (hy : y < q) :
    (inner xs ys).getD y 0 = (cnt (overL xs (blkAt ys y ys.length)) : Int) := by
  have hbd := pSize_bd (partIn_small hx)
  obtain ⟨p, hp⟩ := Int.eq_ofNat_of_zero_le hbd.1
  rw [cnt_over hx hl hf y p hp]
  unfold inner
  rw [hp, hq, Int.toNat_natCast, Int.toNat_natCast, innerTo_getD _ _ _ _ _ hy]

theorem or_same : ∀ b, b < 256 → ∀ t, t < 8 → b.testBit t = true → b ||| 2 ^ t = b := by decide +kernel

end Go.Proofs.Ytbmpchpcihnbdaa
