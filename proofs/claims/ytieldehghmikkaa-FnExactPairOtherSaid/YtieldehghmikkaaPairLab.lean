/-
  Labels handed on along pairs, pass by pass, and trees of things tied by pairs; both tell the same blocks. No program is named here.
-/
import Derived.Test.YtieldehghmikkaaPairMath
import Derived.Test.YtieldehghmikkaaJoinMath
namespace Go.Proofs.Ytieldehghmikkaa
set_option linter.unusedSimpArgs false
set_option linter.unusedVariables false
set_option linter.unnecessarySimpa false

/-- The pairs are pairs of things out of n. -/
def InN (n : Nat) (L : List (Nat × Nat)) : Prop := ∀ p ∈ L, p.1 < n ∧ p.2 < n
theorem inN_of_sub {n : Nat} {L : List (Nat × Nat)} (h : L.Sublist (allP n)) : InN n L := fun p hp => by
  have := mem_allP.1 (show (p.1, p.2) ∈ allP n from h.subset hp)
  omega

theorem labStep_len (f : List Int) (p : Nat × Nat) : (labStep f p).length = f.length := by simp [labStep]
theorem labStep_at (f : List Int) (p : Nat × Nat) (n : Nat) (hf : f.length = n) (h1 : p.1 < n) (h2 : p.2 < n) (j : Nat) :
    (labStep f p).getD j 0 = if j = p.1 ∨ j = p.2 then min (f.getD p.1 0) (f.getD p.2 0) else f.getD j 0 := by
  unfold labStep
  rw [getD_setI _ _ _ _ (by rw [List.length_set]; omega), getD_setI _ _ _ _ (by omega)]
  by_cases e2 : j = p.2
  · simp [e2]
  · by_cases e1 : j = p.1
    · simp [e1]
    · simp [e1, e2]

section
variable (n : Nat)

theorem lab_ind (P : List Int → Prop) : ∀ (L : List (Nat × Nat)), (∀ f p, p ∈ L → P f → P (labStep f p)) → ∀ f, P f → P (L.foldl labStep f) := by
  intro L
  induction L with
  | nil => intro _ f h; exact h
  | cons a L ih =>
    intro hP f h
    exact ih (fun f p hp => hP f p (by simp [hp])) _ (hP f a (by simp) h)

theorem labTo_ind (L : List (Nat × Nat)) (P : List Int → Prop) (hP : ∀ f p, p ∈ L → P f → P (labStep f p)) (h : P (iota 0 n)) : ∀ t, P (labTo n L t) := by
  intro t
  induction t with
  | zero => exact h
  | succ t ih => exact lab_ind P L hP _ ih

theorem lab_le (L : List (Nat × Nat)) (hL : InN n L) (f : List Int) (hf : f.length = n) : LeOf n f (L.foldl labStep f) := by
  refine lab_ind (LeOf n f) L (fun g p hp hg => ⟨by rw [labStep_len]; exact hg.1, fun j hj => ?_⟩) f ⟨hf, fun _ _ => Int.le_refl _⟩
  rw [labStep_at g p n hg.1 (hL p hp).1 (hL p hp).2]
  have h1 := hg.2 j hj
  split
  · rename_i e
    rcases e with rfl | rfl <;> omega
  · exact h1

theorem lab_hit : ∀ (L : List (Nat × Nat)), InN n L → ∀ f : List Int, f.length = n → ∀ p ∈ L, (L.foldl labStep f).getD p.1 0 ≤ f.getD p.2 0 ∧ (L.foldl labStep f).getD p.2 0 ≤ f.getD p.1 0 := by
  intro L
  induction L with
  | nil => intro _ f _ p hp; cases hp
  | cons a L ih =>
    intro hL f hf p hp
    have ha := hL a (by simp)
    have hL' : InN n L := fun q hq => hL q (by simp [hq])
    have hl1 : (labStep f a).length = n := by rw [labStep_len]; exact hf
    have hle := lab_le n L hL' _ hl1
    show (L.foldl labStep (labStep f a)).getD p.1 0 ≤ _ ∧ (L.foldl labStep (labStep f a)).getD p.2 0 ≤ _
    rcases List.mem_cons.1 hp with rfl | hp
    · have h1 := hle.2 p.1 ha.1
      have h2 := hle.2 p.2 ha.2
      rw [labStep_at f p n hf ha.1 ha.2, if_pos (.inl rfl)] at h1
      rw [labStep_at f p n hf ha.1 ha.2, if_pos (.inr rfl)] at h2
      omega
    · have h1 := ih hL' _ hl1 p hp
      have hq := hL' p hp
      have h2 := (lab_le n [a] (fun q hq => by simp at hq; subst hq; exact ha) f hf).2 p.1 hq.1
      have h3 := (lab_le n [a] (fun q hq => by simp at hq; subst hq; exact ha) f hf).2 p.2 hq.2
      simp only [List.foldl_cons, List.foldl_nil] at h2 h3
      omega

/-- Both things of a pair have a number up to m, or none. -/
def ShutP (m : Int) (L : List (Nat × Nat)) (f : List Int) : Prop := ∀ p ∈ L, f.getD p.1 0 ≤ m ↔ f.getD p.2 0 ≤ m

theorem lab_shut (m : Int) (L : List (Nat × Nat)) (hL : InN n L) (f : List Int) (hf : f.length = n) (hs : ShutP m L f) : ∀ j, j < n → (L.foldl labStep f).getD j 0 ≤ m → f.getD j 0 ≤ m := by
  refine (lab_ind (fun h => h.length = n ∧ ∀ j, j < n → h.getD j 0 ≤ m → f.getD j 0 ≤ m) L ?_ f ⟨hf, fun _ _ h => h⟩).2
  intro h p hp ⟨hl, hh⟩
  refine ⟨by rw [labStep_len]; exact hl, fun j hj e => ?_⟩
  have hq := hL p hp
  rw [labStep_at h p n hl hq.1 hq.2] at e
  split at e
  · rename_i e2
    have k1 := hh p.1 hq.1
    have k2 := hh p.2 hq.2
    have s := hs p hp
    rcases Int.le_total (h.getD p.1 0) (h.getD p.2 0) with h1 | h1
    · rw [Int.min_eq_left h1] at e
      rcases e2 with rfl | rfl
      · exact k1 e
      · exact s.1 (k1 e)
    · rw [Int.min_eq_right h1] at e
      rcases e2 with rfl | rfl
      · exact s.2 (k2 e)
      · exact k2 e
  · exact hh j hj e

theorem labTo_len (L : List (Nat × Nat)) (t : Nat) : (labTo n L t).length = n :=
  labTo_ind n L (fun f => f.length = n) (fun f p _ h => by rw [labStep_len]; exact h) (iota_length 0 n) t

theorem lab_or (L : List (Nat × Nat)) (hL : InN n L) (m : Nat) (hm : m < n) : ∀ t, ShutP m L (labTo n L t) ∨ t + 1 ≤ upTo n m (labTo n L t) := by
  intro t
  induction t with
  | zero =>
    refine .inr ?_
    have : m ∈ (List.range n).filter fun j => decide ((iota 0 n).getD j 0 ≤ (m : Int)) := by
      rw [List.mem_filter]
      refine ⟨by simpa using hm, ?_⟩
      rw [iota_getD _ _ _ hm]
      simp
    exact List.length_pos_of_mem this
  | succ t ih =>
    have hl := labTo_len n L t
    have hle := (lab_le n L hL _ hl).2
    by_cases hs : ShutP m L (labTo n L t)
    · refine .inl fun p hp => ?_
      have hq := hL p hp
      have a1 := lab_shut n m L hL _ hl hs p.1 hq.1
      have a2 := lab_shut n m L hL _ hl hs p.2 hq.2
      have b1 := hle p.1 hq.1
      have b2 := hle p.2 hq.2
      have s := hs p hp
      show (L.foldl labStep (labTo n L t)).getD p.1 0 ≤ _ ↔ (L.foldl labStep (labTo n L t)).getD p.2 0 ≤ _
      exact ⟨fun e => Int.le_trans b2 (s.1 (a1 e)), fun e => Int.le_trans b1 (s.2 (a2 e))⟩
    · rcases ih with h | h
      · exact absurd h hs
      · refine .inr ?_
        have hex : ∃ i, i < n ∧ (labTo n L (t + 1)).getD i 0 ≤ (m : Int) ∧ ¬ (labTo n L t).getD i 0 ≤ (m : Int) := by
          refine Classical.byContradiction fun hc => hs fun p hp => ?_
          have hq := hL p hp
          have hh := lab_hit n L hL _ hl p hp
          refine ⟨fun e => ?_, fun e => ?_⟩
          · refine Classical.byContradiction fun h2 => hc ⟨p.2, hq.2, ?_, h2⟩
            exact Int.le_trans hh.2 e
          · refine Classical.byContradiction fun h2 => hc ⟨p.1, hq.1, ?_, h2⟩
            exact Int.le_trans hh.1 e
        obtain ⟨i, hi, e1, e2⟩ := hex
        have : upTo n m (labTo n L t) < upTo n m (labTo n L (t + 1)) := by
          refine filter_len_lt _ _ _ (fun j hj e => ?_) i (by simpa using hi) (by simpa using e2) (by simpa using e1)
          have := hle j (by simpa using hj)
          simp only [decide_eq_true_eq] at e ⊢
          exact Int.le_trans this e
        omega

theorem lab_closed (L : List (Nat × Nat)) (hL : InN n L) (m : Nat) (hm : m < n) : ShutP m L (labTo n L n) := by
  rcases lab_or n L hL m hm n with h | h
  · exact h
  · have := List.length_filter_le (fun j => decide ((labTo n L n).getD j 0 ≤ (m : Int))) (List.range n)
    rw [List.length_range] at this
    unfold upTo at h
    omega

theorem lab_good (L : List (Nat × Nat)) (hL : InN n L) (g : Nat → Int) (hg : ∀ p ∈ L, g p.1 = g p.2) (t : Nat) : Good n g (labTo n L t) := by
  refine labTo_ind n L (Good n g) ?_ ⟨iota_length 0 n, fun i hi => ?_⟩ t
  · intro f p hp ⟨hl, hf⟩
    have hq := hL p hp
    refine ⟨by rw [labStep_len]; exact hl, fun j hj => ?_⟩
    rw [labStep_at f p n hl hq.1 hq.2]
    split
    · rename_i e
      have h1 := hf p.1 hq.1
      have h2 := hf p.2 hq.2
      have h3 := hg p hp
      rcases Int.le_total (f.getD p.1 0) (f.getD p.2 0) with h4 | h4
      · rw [Int.min_eq_left h4]
        rcases e with rfl | rfl
        · exact h1
        · exact ⟨h1.1, h1.2.1, h1.2.2.trans h3⟩
      · rw [Int.min_eq_right h4]
        rcases e with rfl | rfl
        · exact ⟨h2.1, h2.2.1, h2.2.2.trans h3.symm⟩
        · exact h2
    · exact hf j hj
  · rw [iota_getD _ _ _ hi]
    simp [hi]

theorem lab_eq (L : List (Nat × Nat)) (hL : InN n L) {p : Nat × Nat} (hp : p ∈ L) : (labTo n L n).getD p.1 0 = (labTo n L n).getD p.2 0 := by
  have hq := hL p hp
  have hgd := lab_good n L hL (fun _ => 0) (fun _ _ => rfl) n
  have h1 := hgd.2 p.1 hq.1
  have h2 := hgd.2 p.2 hq.2
  have s1 := (lab_closed n L hL ((labTo n L n).getD p.1 0).toNat h1.2.1 p hp).1 (by omega)
  have s2 := (lab_closed n L hL ((labTo n L n).getD p.2 0).toNat h2.2.1 p hp).2 (by omega)
  omega

/-- Any numbers that are alike for the things of a pair, and are told by things alike, tell the blocks by pairs. -/
theorem lab_tells (L : List (Nat × Nat)) (hL : InN n L) (r : List Int) (hr : r.length = n) (heq : ∀ p ∈ L, r.getD p.1 0 = r.getD p.2 0)
    (hgood : ∀ g : Nat → Int, (∀ p ∈ L, g p.1 = g p.2) → Good n g r) : kOut r = partP n L := by
  have hl := labTo_len n L n
  unfold partP
  refine (kOut_pat (labTo n L n) r (by rw [hr, hl]) fun i j hi hj => ?_).1
  rw [hl] at hi hj
  constructor
  · intro e
    have hg := lab_good n L hL (fun i => r.getD i 0) heq n
    have h1 := (hg.2 i hi).2.2
    have h2 := (hg.2 j hj).2.2
    rw [e] at h1
    exact h1.symm.trans h2
  · intro e
    have hg := hgood (fun i => (labTo n L n).getD i 0) (fun p hp => lab_eq n L hL hp)
    have h1 := (hg.2 i hi).2.2
    have h2 := (hg.2 j hj).2.2
    rw [e] at h1
    exact h1.symm.trans h2
end

/-- The roots behind tying the things of each pair. -/
def rootsP (L : List (Nat × Nat)) (rt : Nat → Nat) : Nat → Nat := L.foldl (fun rt p => tied rt p.1 p.2) rt

/-- What is known of the roots when the pairs of L are tied. -/
def JoinedP (n : Nat) (L : List (Nat × Nat)) (rt : Nat → Nat) : Prop :=
  (∀ p ∈ L, rt p.1 = rt p.2) ∧ ∀ g : Nat → Int, (∀ p ∈ L, g p.1 = g p.2) → ∀ j, j < n → g (rt j) = g j

theorem joinedP_nil (n : Nat) : JoinedP n [] id := ⟨fun p hp => (by cases hp), fun g _ j _ => rfl⟩
theorem joinedP_step {n : Nat} {L : List (Nat × Nat)} {rt : Nat → Nat} (h : JoinedP n L rt) (p : Nat × Nat) (h1 : p.1 < n) (h2 : p.2 < n) : JoinedP n (L ++ [p]) (tied rt p.1 p.2) := by
  refine ⟨fun q hq => ?_, fun g hg => ?_⟩
  · rcases List.mem_append.1 hq with hq | hq
    · exact tied_keeps _ _ _ (h.1 q hq)
    · simp at hq
      subst hq
      exact tied_eq _ _ _
  · exact tied_good g (h.2 g fun q hq => hg q (by simp [hq])) h1 h2 (hg p (by simp))

end Go.Proofs.Ytieldehghmikkaa
