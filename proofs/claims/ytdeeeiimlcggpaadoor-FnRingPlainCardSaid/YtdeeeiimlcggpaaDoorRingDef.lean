/-
  What is asked of each partition about the permutation along its blocks; how many rings there are, counted by least things. No program is named here.
-/
import Derived.Test.YtdeeeiimlcggpaaDoorRingOf
import Derived.Test.YtdeeeiimlcggpaaDoorRingFacts
import Derived.Test.YtdeeeiimlcggpaaDoorParts
import Derived.Test.YtdeeeiimlcggpaaDoorArcMath
namespace Go.Proofs.YtdeeeiimlcggpaaDoor
set_option linter.unusedSimpArgs false
set_option linter.unusedVariables false
set_option linter.unnecessarySimpa false

/-- Does the way from x come to t? -/
def reach (f : Nat → Nat) (t : Nat) : Nat → Nat → Bool
  | 0, _ => false
  | d + 1, x => if x = t then true else reach f t d (f x)

theorem reach_orb (f : Nat → Nat) (t : Nat) : ∀ d x, reach f t d x = true → Orb f x t := by
  intro d
  induction d with
  | zero => intro x h; cases h
  | succ d ih =>
    intro x h
    unfold reach at h
    split at h
    · rename_i e; rw [e]; exact orb_refl f t
    · exact orb_trans (orb_step f x) (ih _ h)

def ofChk (xs : List Int) : Bool :=
  (fun s => ringIn s && (List.range xs.length).all fun i => decide (xs.getD (nx s i) 0 = xs.getD i 0) && reach (nx s) (xs.idxOf (xs.getD i 0)) 9 i) (ofTo xs (pSize xs).toNat)

/-- Is i the least thing on the way from x back to it? -/
def leastB (f : Nat → Nat) (i : Nat) : Nat → Nat → Bool
  | 0, _ => false
  | d + 1, x => if x = i then true else if x < i then false else leastB f i d (f x)

theorem leastB_iff (f : Nat → Nat) (i : Nat) : ∀ d x, leastB f i d x = true ↔ ∃ m, m < d ∧ itf f m x = i ∧ ∀ j, j < m → i < itf f j x := by
  intro d
  induction d with
  | zero => intro x; simp [leastB]
  | succ d ih =>
    intro x
    have hs : ∀ j, itf f (j + 1) x = itf f j (f x) := fun j => itf_add f j 1 x
    unfold leastB
    by_cases e : x = i
    · rw [if_pos e]
      exact ⟨fun _ => ⟨0, by omega, e, fun j hj => by omega⟩, fun _ => rfl⟩
    · rw [if_neg e]
      by_cases e2 : x < i
      · rw [if_pos e2]
        constructor
        · intro h; cases h
        · rintro ⟨m, _, h2, h3⟩
          cases m with
          | zero => exact absurd h2 e
          | succ m => have := h3 0 (by omega); simp only [itf] at this; omega
      · rw [if_neg e2, ih]
        constructor
        · rintro ⟨m, h1, h2, h3⟩
          refine ⟨m + 1, by omega, by rw [hs]; exact h2, fun j hj => ?_⟩
          cases j with
          | zero => show i < x; omega
          | succ j => rw [hs]; exact h3 j (by omega)
        · rintro ⟨m, h1, h2, h3⟩
          cases m with
          | zero => exact absurd h2 e
          | succ m => exact ⟨m, by omega, by rw [← hs]; exact h2, fun j hj => by rw [← hs]; exact h3 (j + 1) (by omega)⟩

theorem leastB_ring {n : Nat} {f : Nat → Nat} (h : Led n f) (hn : n ≤ 8) {i : Nat} (hi : i < n) : leastB f i 8 (f i) = true ↔ ringL f i = i := by
  have hs : ∀ j, itf f (j + 1) i = itf f j (f i) := fun j => itf_add f j 1 i
  rw [leastB_iff]
  constructor
  · rintro ⟨m, h1, h2, h3⟩
    have hle := ringL_le h hn hi (orb_refl f i)
    obtain ⟨a, ha⟩ := leastTo_orb f i 8
    have hp : itf f (m + 1) i = i := by rw [hs]; exact h2
    have e : itf f a i = itf f (a % (m + 1)) i := by
      conv => lhs; rw [← Nat.mod_add_div a (m + 1), Nat.mul_comm (m + 1), itf_add, itf_mul hp]
    have hge : i ≤ itf f (a % (m + 1)) i := by
      have hb : a % (m + 1) < m + 1 := Nat.mod_lt a (Nat.succ_pos m)
      cases hq : a % (m + 1) with
      | zero => exact Nat.le_refl _
      | succ j => rw [hs]; exact Nat.le_of_lt (h3 j (by omega))
    have : i ≤ ringL f i := by show i ≤ leastTo f i 8; rw [← ha, e]; exact hge
    exact Nat.le_antisymm hle this
  · intro e
    obtain ⟨m, hm1, hm2, hm3⟩ := itf_back h hi
    obtain ⟨q, ⟨hq1, hq2⟩, hmin⟩ := least_such (fun a => 1 ≤ a ∧ itf f a i = i) m ⟨hm1, hm3⟩
    have hqm : q ≤ m := Nat.le_of_not_lt fun hlt => hmin m hlt ⟨hm1, hm3⟩
    refine ⟨q - 1, by omega, by rw [← hs, Nat.sub_add_cancel hq1]; exact hq2, fun j hj => ?_⟩
    rw [← hs]
    have h1 : itf f (j + 1) i ≠ i := fun e2 => hmin (j + 1) (by omega) ⟨by omega, e2⟩
    have h2 := ringL_le h hn hi (⟨j + 1, rfl⟩ : Orb f i (itf f (j + 1) i))
    omega

/-- The number of rings. -/
def cntRings (f : Nat → Nat) (n : Nat) : Nat := ((List.range n).filter fun i => leastB f i 8 (f i)).length

theorem cnt_rings {xs : List Int} (hx : ringIn xs = true) : pSize (ringsOf xs) = cntRings (nx xs) xs.length := by
  obtain ⟨_, h8, _, hL⟩ := ringIn_facts hx
  rw [ringsOf, pSize_kOut]
  have : ∀ k, k ≤ xs.length → kNext ((ringLs (nx xs) xs.length).take k) = (((List.range k).filter fun i => leastB (nx xs) i 8 (nx xs i)).length : Int) := by
    intro k
    induction k with
    | zero => intro _; simp; rfl
    | succ k ih =>
      intro hk
      rw [take_snoc _ k (by rw [ringLs_length]; omega), kNext_snocR, ih (by omega), ringLs_getD _ _ _ (by omega), List.range_succ, List.filter_append, List.length_append]
      have hmem : ((ringL (nx xs) k : Nat) : Int) ∈ (ringLs (nx xs) xs.length).take k ↔ ringL (nx xs) k ≠ k := by
        constructor
        · intro hm e
          rw [e] at hm
          obtain ⟨j, hj, hje⟩ := List.mem_iff_getElem.1 hm
          rw [List.length_take, ringLs_length] at hj
          have h1 : ((ringLs (nx xs) xs.length).take k)[j] = (ringL (nx xs) j : Int) := by simp [ringLs]
          rw [h1] at hje
          have h2 := ringL_le hL h8 (x := j) (by omega) (orb_refl (nx xs) j)
          omega
        · intro hne
          have h1 := ringL_le hL h8 (x := k) (by omega) (orb_refl (nx xs) k)
          have h2 : ringL (nx xs) (ringL (nx xs) k) = ringL (nx xs) k := (ringL_pat hL h8 (by omega) (by omega)).2 (orb_symm hL (x := k) (by omega) (leastTo_orb (nx xs) k 8))
          refine List.mem_iff_getElem.2 ⟨ringL (nx xs) k, by rw [List.length_take, ringLs_length]; omega, ?_⟩
          simp [ringLs, h2]
      have hb := leastB_ring hL h8 (i := k) (by omega)
      by_cases e : ringL (nx xs) k = k
      · rw [if_neg (fun hm => hmem.1 hm e)]
        simp [hb.2 e]
      · rw [if_pos (hmem.2 e)]
        have : leastB (nx xs) k 8 (nx xs k) = false := by
          cases hq : leastB (nx xs) k 8 (nx xs k)
          · rfl
          · exact absurd (hb.1 hq) e
        simp [this]
  have h := this xs.length (Nat.le_refl _)
  rw [List.take_of_length_le (by rw [ringLs_length]; exact Nat.le_refl _)] at h
  exact h

/-- The ring of all things. -/
def greatL (n : Nat) : List Int := (List.range n).map fun i => (((i + 1) % n : Nat) : Int)
theorem greatL_length (n : Nat) : (greatL n).length = n := by simp [greatL]
theorem greatL_getD (n k : Nat) (h : k < n) : (greatL n).getD k 0 = (((k + 1) % n : Nat) : Int) := by simp [greatL, List.getD, h]
theorem greatL_ok : ∀ n, n < 9 → 1 ≤ n → permOk n (greatL n) = true := by decide +kernel

def plainChk (xs : List Int) : Bool :=
  (fun c => decide ((cntRings (nx c) xs.length : Int) = (xs.length : Int) - pSize xs + 1) == decide (crossings xs = 0)) (prodL (backTo (ofTo xs (pSize xs).toNat) xs.length) (greatL xs.length))

theorem forParts_of {p : List Int → Bool} {d b : Nat} {pre : List Int} (h : ∀ v, v < b + 1 → p (pre ++ [(v : Int)]) = true ∧ forParts p d (if v = b then b + 1 else b) (pre ++ [(v : Int)]) = true) : forParts p (d + 1) b pre = true := by
  rw [forParts, List.all_eq_true]
  intro v hv
  have := h v (List.mem_range.1 hv)
  rw [this.1, this.2]
  rfl

end Go.Proofs.YtdeeeiimlcggpaaDoor
