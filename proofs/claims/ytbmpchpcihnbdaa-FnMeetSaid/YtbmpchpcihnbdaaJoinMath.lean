/-
  Plain lists: the join of two partitions, by passes that hand least numbers on, and by trees of things; both tell the same. No program is named here.
-/
import Derived.Test.YtbmpchpcihnbdaaTurnMath
import Derived.Test.YtbmpchpcihnbdaaFinIn
namespace Go.Proofs.Ytbmpchpcihnbdaa
set_option linter.unusedSimpArgs false
set_option linter.unusedVariables false
set_option linter.unnecessarySimpa false

/-- Together in one of both. -/
def tog (xs ys : List Int) (i k : Nat) : Bool := decide (xs.getD i 0 = xs.getD k 0) || decide (ys.getD i 0 = ys.getD k 0)

theorem tog_iff {xs ys : List Int} {i k : Nat} : tog xs ys i k = true ↔ xs.getD i 0 = xs.getD k 0 ∨ ys.getD i 0 = ys.getD k 0 := by
  simp only [tog, Bool.or_eq_true, decide_eq_true_eq]

theorem tog_symm {xs ys : List Int} {i k : Nat} (h : tog xs ys i k = true) : tog xs ys k i = true := by
  rw [tog_iff] at h ⊢
  rcases h with h | h
  · exact .inl h.symm
  · exact .inr h.symm

def joinK (xs ys f : List Int) (i k : Nat) : List Int := if tog xs ys i k then f.set i (min (f.getD i 0) (f.getD k 0)) else f
def joinRow (xs ys f : List Int) (i : Nat) : Nat → List Int
  | 0 => f
  | k + 1 => joinK xs ys (joinRow xs ys f i k) i k
def joinPass (xs ys f : List Int) (n : Nat) : Nat → List Int
  | 0 => f
  | i + 1 => joinRow xs ys (joinPass xs ys f n i) i n
def joinAll (xs ys : List Int) (n : Nat) : Nat → List Int
  | 0 => iota 0 n
  | t + 1 => joinPass xs ys (joinAll xs ys n t) n n

theorem getD_setI (l : List Int) (k : Nat) (x : Int) (q : Nat) (hk : k < l.length) : (l.set k x).getD q 0 = if q = k then x else l.getD q 0 := by
  rw [List.getD_eq_getElem?_getD, List.getElem?_set]
  by_cases e : k = q
  · subst e
    simp [hk]
  · rw [if_neg e, if_neg (fun e' => e e'.symm), ← List.getD_eq_getElem?_getD]

section
variable (xs ys : List Int) (n : Nat)

/-- What holds of a list and of each change of it holds in the end. -/
theorem row_ind (P : List Int → Prop) (hP : ∀ f i k, i < n → k < n → tog xs ys i k = true → P f → P (f.set i (min (f.getD i 0) (f.getD k 0)))) (f : List Int) (i : Nat) (hi : i < n) (h : P f) : ∀ k, k ≤ n → P (joinRow xs ys f i k) := by
  intro k
  induction k with
  | zero => intro _; exact h
  | succ k ih =>
    intro hk
    unfold joinRow joinK
    split
    · rename_i ht
      exact hP _ i k hi (by omega) ht (ih (by omega))
    · exact ih (by omega)

theorem pass_ind (P : List Int → Prop) (hP : ∀ f i k, i < n → k < n → tog xs ys i k = true → P f → P (f.set i (min (f.getD i 0) (f.getD k 0)))) (f : List Int) (h : P f) : ∀ i, i ≤ n → P (joinPass xs ys f n i) := by
  intro i
  induction i with
  | zero => intro _; exact h
  | succ i ih =>
    intro hi
    exact row_ind xs ys n P hP _ i (by omega) (ih (by omega)) n (Nat.le_refl _)

theorem all_ind (P : List Int → Prop) (hP : ∀ f i k, i < n → k < n → tog xs ys i k = true → P f → P (f.set i (min (f.getD i 0) (f.getD k 0)))) (h : P (iota 0 n)) : ∀ t, P (joinAll xs ys n t) := by
  intro t
  induction t with
  | zero => exact h
  | succ t ih => exact pass_ind xs ys n P hP _ ih n (Nat.le_refl _)

/-- As long as told, and nowhere greater. -/
def LeOf (f h : List Int) : Prop := h.length = n ∧ ∀ j, j < n → h.getD j 0 ≤ f.getD j 0

theorem le_step (f : List Int) (h : List Int) (i k : Nat) (hi : i < n) (hk : k < n) (hh : LeOf n f h) : LeOf n f (h.set i (min (h.getD i 0) (h.getD k 0))) := by
  refine ⟨by rw [List.length_set]; exact hh.1, fun j hj => ?_⟩
  rw [getD_setI _ _ _ _ (by rw [hh.1]; exact hi)]
  have h1 := hh.2 j hj
  split
  · rename_i e
    subst e
    omega
  · exact h1

theorem row_le (f : List Int) (hf : f.length = n) (i : Nat) (hi : i < n) (k : Nat) (hk : k ≤ n) : LeOf n f (joinRow xs ys f i k) :=
  row_ind xs ys n (LeOf n f) (fun h i k hi hk _ hh => le_step n f h i k hi hk hh) f i hi ⟨hf, fun _ _ => Int.le_refl _⟩ k hk

theorem pass_le (f : List Int) (hf : f.length = n) (i : Nat) (hi : i ≤ n) : LeOf n f (joinPass xs ys f n i) :=
  pass_ind xs ys n (LeOf n f) (fun h i k hi hk _ hh => le_step n f h i k hi hk hh) f ⟨hf, fun _ _ => Int.le_refl _⟩ i hi

theorem row_hit (f : List Int) (hf : f.length = n) (i : Nat) (hi : i < n) : ∀ k, k ≤ n → ∀ q, q < k → tog xs ys i q = true → (joinRow xs ys f i k).getD i 0 ≤ f.getD q 0 := by
  intro k
  induction k with
  | zero => intro _ q hq; omega
  | succ k ih =>
    intro hk q hq ht
    have hl := row_le xs ys n f hf i hi k (by omega)
    unfold joinRow joinK
    by_cases e : q = k
    · subst e
      rw [if_pos ht, getD_setI _ _ _ _ (by rw [hl.1]; exact hi), if_pos rfl]
      have := hl.2 q (by omega)
      omega
    · have h1 := ih (by omega) q (by omega) ht
      split
      · rw [getD_setI _ _ _ _ (by rw [hl.1]; exact hi), if_pos rfl]
        omega
      · exact h1

theorem pass_hit (f : List Int) (hf : f.length = n) : ∀ i, i ≤ n → ∀ j, j < i → ∀ q, q < n → tog xs ys j q = true → (joinPass xs ys f n i).getD j 0 ≤ f.getD q 0 := by
  intro i
  induction i with
  | zero => intro _ j hj; omega
  | succ i ih =>
    intro hi j hj q hq ht
    have hl := pass_le xs ys n f hf i (by omega)
    show (joinRow xs ys (joinPass xs ys f n i) i n).getD j 0 ≤ _
    by_cases e : j = i
    · subst e
      have h1 := row_hit xs ys n _ hl.1 j (by omega) n (Nat.le_refl _) q hq ht
      have := hl.2 q hq
      omega
    · have h1 := ih (by omega) j (by omega) q hq ht
      have := (row_le xs ys n _ hl.1 i (by omega) n (Nat.le_refl _)).2 j (by omega)
      omega

/-- Whatever is together has a number up to m, if one of it has. -/
def Shut (m : Int) (f : List Int) : Prop := ∀ i k, i < n → k < n → tog xs ys i k = true → f.getD k 0 ≤ m → f.getD i 0 ≤ m

theorem pass_shut (m : Int) (f : List Int) (hf : f.length = n) (hs : Shut xs ys n m f) : ∀ j, j < n → (joinPass xs ys f n n).getD j 0 ≤ m → f.getD j 0 ≤ m := by
  refine (pass_ind xs ys n (fun h => h.length = n ∧ ∀ j, j < n → h.getD j 0 ≤ m → f.getD j 0 ≤ m) ?_ f ⟨hf, fun _ _ h => h⟩ n (Nat.le_refl _)).2
  intro h i k hi hk ht ⟨hl, hh⟩
  refine ⟨by rw [List.length_set]; exact hl, fun j hj e => ?_⟩
  rw [getD_setI _ _ _ _ (by rw [hl]; exact hi)] at e
  split at e
  · rename_i e2
    subst e2
    rcases Int.le_total (h.getD j 0) (h.getD k 0) with h1 | h1
    · exact hh j hj (by omega)
    · exact hs j k hj hk ht (hh k hk (by omega))
  · exact hh j hj e

def upTo (m : Int) (f : List Int) : Nat := ((List.range n).filter fun j => decide (f.getD j 0 ≤ m)).length

theorem filter_len_le (p q : Nat → Bool) (l : List Nat) (h : ∀ x ∈ l, p x = true → q x = true) : (l.filter p).length ≤ (l.filter q).length := by
  induction l with
  | nil => exact Nat.le_refl _
  | cons x l ih =>
    have h1 := ih fun y hy => h y (by simp [hy])
    have h2 := h x (by simp)
    simp only [List.filter_cons]
    cases hp : p x
    · cases hq : q x <;> simp <;> omega
    · rw [h2 hp]; simp; omega

theorem filter_len_lt (p q : Nat → Bool) (l : List Nat) (h : ∀ x ∈ l, p x = true → q x = true) (y : Nat) (hy : y ∈ l) (h1 : p y = false) (h2 : q y = true) : (l.filter p).length < (l.filter q).length := by
  induction l with
  | nil => cases hy
  | cons x l ih =>
    have hle := filter_len_le p q l fun z hz => h z (by simp [hz])
    simp only [List.filter_cons]
    rcases List.mem_cons.1 hy with e | hm
    · subst e
      rw [h1, h2]
      simp
      omega
    · have h3 := ih (fun z hz => h z (by simp [hz])) hm
      have h4 := h x (by simp)
      cases hp : p x
      · cases hq : q x <;> simp <;> omega
      · rw [h4 hp]; simp; omega

theorem joinAll_len (t : Nat) : (joinAll xs ys n t).length = n :=
  all_ind xs ys n (fun f => f.length = n) (fun f i k _ _ _ h => by rw [List.length_set]; exact h) (iota_length 0 n) t

theorem shut_or (m : Nat) (hm : m < n) : ∀ t, Shut xs ys n m (joinAll xs ys n t) ∨ t + 1 ≤ upTo n m (joinAll xs ys n t) := by
  intro t
  induction t with
  | zero =>
    refine .inr ?_
    have : m ∈ (List.range n).filter fun j => decide ((iota 0 n).getD j 0 ≤ (m : Int)) := by
      rw [List.mem_filter]
      refine ⟨by simpa using hm, ?_⟩
      rw [iota_getD _ _ _ hm]
      simp
    exact List.length_pos_of_mem this
  | succ t ih =>
    have hl := joinAll_len xs ys n t
    have hle := (pass_le xs ys n _ hl n (Nat.le_refl _)).2
    by_cases hs : Shut xs ys n m (joinAll xs ys n t)
    · refine .inl fun i k hi hk ht e => ?_
      have h1 := pass_shut xs ys n m _ hl hs k hk e
      have h2 := hs i k hi hk ht h1
      have h3 := hle i hi
      show (joinPass xs ys (joinAll xs ys n t) n n).getD i 0 ≤ _
      omega
    · rcases ih with h | h
      · exact absurd h hs
      · refine .inr ?_
        have hex : ∃ i k, i < n ∧ k < n ∧ tog xs ys i k = true ∧ (joinAll xs ys n t).getD k 0 ≤ m ∧ ¬ (joinAll xs ys n t).getD i 0 ≤ m := by
          refine Classical.byContradiction fun hc => hs fun i k hi hk ht e => ?_
          refine Classical.byContradiction fun h2 => hc ⟨i, k, hi, hk, ht, e, h2⟩
        obtain ⟨i, k, hi, hk, ht, e1, e2⟩ := hex
        have h3 := pass_hit xs ys n _ hl n (Nat.le_refl _) i hi k hk ht
        have : upTo n m (joinAll xs ys n t) < upTo n m (joinAll xs ys n (t + 1)) := by
          refine filter_len_lt _ _ _ (fun j hj e => ?_) i (by simpa using hi) (by simpa using e2) ?_
          · have := hle j (by simpa using hj)
            simp only [decide_eq_true_eq] at e ⊢
            show (joinPass xs ys (joinAll xs ys n t) n n).getD j 0 ≤ _
            omega
          · simp only [decide_eq_true_eq]
            show (joinPass xs ys (joinAll xs ys n t) n n).getD i 0 ≤ _
            omega
        omega

theorem join_shut (m : Nat) (hm : m < n) : Shut xs ys n m (joinAll xs ys n n) := by
  rcases shut_or xs ys n m hm n with h | h
  · exact h
  · have := List.length_filter_le (fun j => decide ((joinAll xs ys n n).getD j 0 ≤ (m : Int))) (List.range n)
    rw [List.length_range] at this
    unfold upTo at h
    omega

/-- Each number is that of a thing, which any g that keeps together what is together tells alike. -/
def Good (g : Nat → Int) (f : List Int) : Prop := f.length = n ∧ ∀ i, i < n → 0 ≤ f.getD i 0 ∧ (f.getD i 0).toNat < n ∧ g (f.getD i 0).toNat = g i

theorem join_good (g : Nat → Int) (hg : ∀ i k, i < n → k < n → tog xs ys i k = true → g i = g k) (t : Nat) : Good n g (joinAll xs ys n t) := by
  refine all_ind xs ys n (Good n g) ?_ ⟨iota_length 0 n, fun i hi => ?_⟩ t
  · intro f i k hi hk ht ⟨hl, hf⟩
    refine ⟨by rw [List.length_set]; exact hl, fun j hj => ?_⟩
    rw [getD_setI _ _ _ _ (by rw [hl]; exact hi)]
    split
    · rename_i e
      subst e
      have h1 := hf j hj
      have h2 := hf k hk
      rcases Int.le_total (f.getD j 0) (f.getD k 0) with h3 | h3
      · rw [Int.min_eq_left h3]; exact h1
      · rw [Int.min_eq_right h3]
        exact ⟨h2.1, h2.2.1, h2.2.2.trans (hg j k hj hk ht).symm⟩
    · exact hf j hj
  · rw [iota_getD _ _ _ hi]
    simp [hi]

theorem join_eq {i k : Nat} (hi : i < n) (hk : k < n) (ht : tog xs ys i k = true) : (joinAll xs ys n n).getD i 0 = (joinAll xs ys n n).getD k 0 := by
  have hgd := join_good xs ys n (fun _ => 0) (fun _ _ _ _ _ => rfl) n
  have h1 := hgd.2 i hi
  have h2 := hgd.2 k hk
  have s1 := join_shut xs ys n ((joinAll xs ys n n).getD i 0).toNat h1.2.1 k i hk hi (tog_symm ht) (by omega)
  have s2 := join_shut xs ys n ((joinAll xs ys n n).getD k 0).toNat h2.2.1 i k hi hk ht (by omega)
  omega

/-- Any numbers that keep together what is together, and are told by things alike, tell the join. -/
theorem join_tells (r : List Int) (hr : r.length = n) (heq : ∀ i k, i < n → k < n → tog xs ys i k = true → r.getD i 0 = r.getD k 0)
    (hgood : ∀ g : Nat → Int, (∀ i k, i < n → k < n → tog xs ys i k = true → g i = g k) → Good n g r) : kOut r = kOut (joinAll xs ys n n) := by
  have hl := joinAll_len xs ys n n
  refine (kOut_pat (joinAll xs ys n n) r (by rw [hr, hl]) fun i j hi hj => ?_).1
  rw [hl] at hi hj
  constructor
  · intro e
    have hg := join_good xs ys n (fun i => r.getD i 0) heq n
    have h1 := (hg.2 i hi).2.2
    have h2 := (hg.2 j hj).2.2
    rw [e] at h1
    exact h1.symm.trans h2
  · intro e
    have hg := hgood (fun i => (joinAll xs ys n n).getD i 0) (fun i k hi hk ht => join_eq xs ys n hi hk ht)
    have h1 := (hg.2 i hi).2.2
    have h2 := (hg.2 j hj).2.2
    rw [e] at h1
    exact h1.symm.trans h2
end

def finerJoin (xs ys : List Int) : List Int × Bool := if alike xs ys then (kOut (joinAll xs ys xs.length xs.length), true) else ([], false)

theorem finerJoin_len (xs ys : List Int) (h : xs.length ≤ 1048576) (_ : ys.length ≤ 1048576) : (finerJoin xs ys).1.length ≤ 2305843009213693952 := by
  unfold finerJoin
  split
  · rw [kOut_length, joinAll_len]; omega
  · simp

/-- Trees of things: par leads to a lesser thing, or a root to itself; rt tells the root. -/
def Forest (n : Nat) (par rt : Nat → Nat) : Prop := ∀ j, j < n → rt j < n ∧ ((par j = j ∧ rt j = j) ∨ (par j < j ∧ rt (par j) = rt j))

theorem forest_root {n : Nat} {par rt : Nat → Nat} (h : Forest n par rt) {j : Nat} (hj : j < n) : rt (rt j) = rt j := by
  have : ∀ k j, j ≤ k → j < n → rt (rt j) = rt j := by
    intro k
    induction k with
    | zero =>
      intro j hjk hj
      rcases (h j hj).2 with ⟨_, h2⟩ | ⟨h1, _⟩
      · rw [h2, h2]
      · omega
    | succ k ih =>
      intro j hjk hj
      rcases (h j hj).2 with ⟨_, h2⟩ | ⟨h1, h2⟩
      · rw [h2, h2]
      · rw [← h2]
        exact ih (par j) (by omega) (by omega)
  exact this j j (Nat.le_refl _) hj

theorem forest_par_root {n : Nat} {par rt : Nat → Nat} (h : Forest n par rt) {j : Nat} (hj : j < n) : par (rt j) = rt j := by
  have hr := forest_root h hj
  rcases (h (rt j) (h j hj).1).2 with ⟨h1, _⟩ | ⟨h1, h2⟩
  · exact h1
  · -- a root that leads on has a root below itself
    have hlt : ∀ k j, j ≤ k → j < n → rt j ≤ j := by
      intro k
      induction k with
      | zero =>
        intro j hjk hj
        rcases (h j hj).2 with ⟨_, h3⟩ | ⟨h3, _⟩ <;> omega
      | succ k ih =>
        intro j hjk hj
        rcases (h j hj).2 with ⟨_, h3⟩ | ⟨h3, h4⟩
        · omega
        · have := ih (par j) (by omega) (by omega)
          omega
    have h3 := hlt _ (par (rt j)) (Nat.le_refl _) (by have := (h j hj).1; omega)
    omega

/-- The root b is hung below the lesser root a. -/
def hang (f : Nat → Nat) (b a : Nat) : Nat → Nat := fun j => if j = b then a else f j
def rehang (rt : Nat → Nat) (b a : Nat) : Nat → Nat := fun j => if rt j = b then a else rt j

theorem forest_hang {n : Nat} {par rt : Nat → Nat} (h : Forest n par rt) {a b : Nat} (hb : b < n) (hab : a < b) (ha : rt a = a) (hbr : rt b = b) : Forest n (hang par b a) (rehang rt b a) := by
  intro j hj
  have hj1 := h j hj
  refine ⟨by unfold rehang; split <;> omega, ?_⟩
  by_cases e : j = b
  · subst e
    refine .inr ⟨by unfold hang; rw [if_pos rfl]; exact hab, ?_⟩
    unfold hang rehang
    rw [if_pos rfl, if_pos hbr, if_neg (by rw [ha]; omega), ha]
  · rcases hj1.2 with ⟨h1, h2⟩ | ⟨h1, h2⟩
    · refine .inl ⟨by unfold hang; rw [if_neg e]; exact h1, ?_⟩
      unfold rehang
      rw [if_neg (by rw [h2]; exact e)]
      exact h2
    · refine .inr ⟨by unfold hang; rw [if_neg e]; exact h1, ?_⟩
      unfold hang rehang
      rw [if_neg e, h2]

/-- The roots behind tying i and k. -/
def tied (rt : Nat → Nat) (i k : Nat) : Nat → Nat := if rt i < rt k then rehang rt (rt k) (rt i) else if rt k < rt i then rehang rt (rt i) (rt k) else rt

theorem tied_keeps (rt : Nat → Nat) (i k : Nat) {a b : Nat} (h : rt a = rt b) : tied rt i k a = tied rt i k b := by
  unfold tied rehang
  split
  · simp only [h]
  · split
    · simp only [h]
    · exact h

theorem tied_eq (rt : Nat → Nat) (i k : Nat) : tied rt i k i = tied rt i k k := by
  unfold tied rehang
  split
  · dsimp only
    rw [if_neg (by omega)]
    simp
  · split
    · simp
    · omega

theorem tied_good {n : Nat} {rt : Nat → Nat} (g : Nat → Int) (hg : ∀ j, j < n → g (rt j) = g j) {i k : Nat} (hi : i < n) (hk : k < n) (e : g i = g k) : ∀ j, j < n → g (tied rt i k j) = g j := by
  intro j hj
  have h1 := hg i hi
  have h2 := hg k hk
  have h3 := hg j hj
  unfold tied rehang
  split
  · dsimp only
    split
    · rename_i e2
      rw [h1, e, ← h2, ← e2, h3]
    · exact h3
  · split
    · dsimp only
      split
      · rename_i e2
        rw [h2, ← e, ← h1, ← e2, h3]
      · exact h3
    · exact h3

end Go.Proofs.Ytbmpchpcihnbdaa
