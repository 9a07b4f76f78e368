/-
  What is near what, as sets of bits. No program is named here.
-/
import Derived.Test.YtieldehghmikkaaPairTrip
import Derived.Test.YtieldehghmikkaaBits
namespace Go.Proofs.Ytieldehghmikkaa
set_option linter.unusedSimpArgs false
set_option linter.unusedVariables false
set_option maxRecDepth 100000

def nearStep (ns : List Nat) (p : Nat × Nat) : List Nat := (ns.set p.1 (ns.getD p.1 0 ||| 2 ^ p.2)).set p.2 (ns.getD p.2 0 ||| 2 ^ p.1)
def nearTo (n : Nat) (L : List (Nat × Nat)) (k : Nat) : List Nat := (L.take k).foldl nearStep (List.replicate n 0)

theorem getD_setN (l : List Nat) (k x q : Nat) (hk : k < l.length) : (l.set k x).getD q 0 = if q = k then x else l.getD q 0 := by
  rw [List.getD_eq_getElem?_getD, List.getElem?_set]
  by_cases e : k = q
  · subst e
    simp [hk]
  · rw [if_neg e, if_neg (fun e' => e e'.symm), ← List.getD_eq_getElem?_getD]

theorem nearStep_len (ns : List Nat) (p : Nat × Nat) : (nearStep ns p).length = ns.length := by simp [nearStep]
theorem nearStep_at (ns : List Nat) (p : Nat × Nat) (h1 : p.1 < ns.length) (h2 : p.2 < ns.length) (hlt : p.1 < p.2) (i : Nat) :
    (nearStep ns p).getD i 0 = if i = p.2 then ns.getD p.2 0 ||| 2 ^ p.1 else if i = p.1 then ns.getD p.1 0 ||| 2 ^ p.2 else ns.getD i 0 := by
  unfold nearStep
  rw [getD_setN _ _ _ _ (by rw [List.length_set]; exact h2), getD_setN _ _ _ _ h1]

theorem near_ind (P : List Nat → Prop) : ∀ (L : List (Nat × Nat)), (∀ f p, p ∈ L → P f → P (nearStep f p)) → ∀ f, P f → P (L.foldl nearStep f) := by
  intro L
  induction L with
  | nil => intro _ f h; exact h
  | cons a L ih =>
    intro hP f h
    exact ih (fun f p hp => hP f p (by simp [hp])) _ (hP f a (by simp) h)

theorem nearTo_len (n : Nat) (L : List (Nat × Nat)) (k : Nat) : (nearTo n L k).length = n :=
  near_ind (fun f => f.length = n) (L.take k) (fun f p _ h => by rw [nearStep_len]; exact h) _ (by simp)

theorem near_bits : ∀ (L : List (Nat × Nat)) (ns : List Nat), (∀ p ∈ L, p.1 < p.2 ∧ p.2 < ns.length) → ∀ i x, ((L.foldl nearStep ns).getD i 0).testBit x = ((ns.getD i 0).testBit x || adjP L i x) := by
  intro L
  induction L with
  | nil => intro ns _ i x; simp [adjP]
  | cons p L ih =>
    intro ns h i x
    obtain ⟨h1, h2⟩ := h p (by simp)
    show ((L.foldl nearStep (nearStep ns p)).getD i 0).testBit x = _
    rw [ih (nearStep ns p) (fun q hq => by rw [nearStep_len]; exact h q (by simp [hq])) i x, nearStep_at ns p (by omega) h2 h1]
    obtain ⟨a, b⟩ := p
    dsimp only at h1 h2 ⊢
    have e : adjP ((a, b) :: L) i x = (((i, x) == (a, b)) || ((x, i) == (a, b)) || adjP L i x) := by
      unfold adjP
      simp only [List.contains_cons]
      cases ((i, x) == (a, b)) <;> cases ((x, i) == (a, b)) <;> cases L.contains (i, x) <;> cases L.contains (x, i) <;> rfl
    rw [e]
    have e1 : ((i, x) == (a, b)) = (decide (i = a) && decide (x = b)) := by rw [Bool.eq_iff_iff]; simp
    have e2 : ((x, i) == (a, b)) = (decide (x = a) && decide (i = b)) := by rw [Bool.eq_iff_iff]; simp
    rw [e1, e2]
    by_cases c1 : i = b
    · subst c1
      rw [if_pos rfl, Nat.testBit_or, Nat.testBit_two_pow]
      have : decide (i = a) = false := decide_eq_false (by omega)
      rw [this]
      by_cases c2 : a = x
      · subst c2; simp
      · have : decide (x = a) = false := decide_eq_false (by omega)
        rw [this]
        simp [c2]
    · rw [if_neg c1]
      by_cases c2 : i = a
      · subst c2
        rw [if_pos rfl, Nat.testBit_or, Nat.testBit_two_pow]
        have : decide (i = b) = false := decide_eq_false c1
        rw [this]
        by_cases c3 : b = x
        · subst c3; simp
        · have : decide (x = b) = false := decide_eq_false (by omega)
          rw [this]
          simp [c3]
      · rw [if_neg c2]
        simp [c1, c2]

theorem near_lt (n : Nat) (hn : n ≤ 8) (L : List (Nat × Nat)) (hL : ∀ p ∈ L, p.1 < p.2 ∧ p.2 < n) (k : Nat) : ∀ i, (nearTo n L k).getD i 0 < 256 := by
  refine (near_ind (fun f => f.length = n ∧ ∀ i, f.getD i 0 < 256) (L.take k) (fun f p hp h => ⟨by rw [nearStep_len]; exact h.1, fun i => ?_⟩) _ ⟨by simp, fun i => ?_⟩).2
  · have hq := hL p (List.mem_of_mem_take hp)
    rw [nearStep_at f p (by omega) (by omega) hq.1]
    have o1 := Nat.or_lt_two_pow (n := 8) (h.2 p.2) (show 2 ^ p.1 < 2 ^ 8 from Nat.pow_lt_pow_right (by decide) (by omega))
    have o2 := Nat.or_lt_two_pow (n := 8) (h.2 p.1) (show 2 ^ p.2 < 2 ^ 8 from Nat.pow_lt_pow_right (by decide) (by omega))
    split
    · exact o1
    · split
      · exact o2
      · exact h.2 i
  · by_cases h : i < n
    · simp [List.getD, List.getElem?_replicate, h]
    · simp [List.getD, List.getElem?_replicate, h]

theorem nearTo_next (n : Nat) (L : List (Nat × Nat)) (k : Nat) (h : k < L.length) : nearTo n L (k + 1) = nearStep (nearTo n L k) (L.getD k (0, 0)) := by
  unfold nearTo
  rw [List.take_add_one, List.getElem?_eq_getElem h, List.foldl_append]
  simp [List.getD, h]

/-- How many things are near both. -/
def both (n : Nat) (L : List (Nat × Nat)) (p : Nat × Nat) : Nat := cnt ((nearTo n L L.length).getD p.1 0 &&& (nearTo n L L.length).getD p.2 0)

theorem both_count {n : Nat} {L : List (Nat × Nat)} (hn : n ≤ 8) (hL : ∀ p ∈ L, p.1 < p.2 ∧ p.2 < n) (p : Nat × Nat) : both n L p = (List.range n).countP fun x => adjP L p.1 x && adjP L p.2 x := by
  have hb : ∀ i x, ((nearTo n L L.length).getD i 0).testBit x = adjP L i x := fun i x => by
    unfold nearTo
    rw [List.take_length, near_bits L _ (by simpa using hL)]
    have : (List.replicate n 0).getD i 0 = 0 := by
      by_cases h : i < n <;> simp [List.getD, List.getElem?_replicate, h]
    rw [this]
    simp
  have hz : ∀ i x, n ≤ x → adjP L i x = false := fun i x hx => by
    unfold adjP
    rw [Bool.or_eq_false_iff]
    constructor
    · rw [Bool.eq_false_iff]
      intro hc
      have := hL (i, x) (by simpa using hc)
      dsimp only at this
      omega
    · rw [Bool.eq_false_iff]
      intro hc
      have := hL (x, i) (by simpa using hc)
      dsimp only at this
      omega
  unfold both cnt
  rw [← List.countP_eq_length_filter]
  have h8 : List.range 8 = List.range n ++ (List.range (8 - n)).map (n + ·) := by
    have := List.range_add (n := n) (m := 8 - n)
    rw [show n + (8 - n) = 8 by omega] at this
    exact this
  rw [h8, List.countP_append]
  have h0 : ((List.range (8 - n)).map (n + ·)).countP (fun t => ((nearTo n L L.length).getD p.1 0 &&& (nearTo n L L.length).getD p.2 0).testBit t) = 0 := by
    rw [List.countP_eq_zero]
    intro t ht
    obtain ⟨x, _, rfl⟩ := List.mem_map.1 ht
    rw [Nat.testBit_and, hb, hz _ _ (by omega)]
    simp
  rw [h0, Nat.add_zero]
  apply List.countP_congr
  intro x _
  rw [Nat.testBit_and, hb, hb]

/-- Told by what is near both things of a pair that misses. -/
theorem three_near {n : Nat} {L : List (Nat × Nat)} (hn : n < 7) (h : L.Sublist (allP n)) : ((otherP n L).map (both n L)).sum = threeP n L := by
  rw [← three_by_others hn h]
  congr 1
  apply List.map_congr_left
  intro p _
  exact both_count (by omega) (fun q hq => mem_allP.1 (show (q.1, q.2) ∈ allP n from h.subset hq)) p

end Go.Proofs.Ytieldehghmikkaa
