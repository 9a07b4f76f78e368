/-
  Types of partitions as lists: what is one, and how many partitions have it. No program is named here.
-/
import Derived.Test.YtfomfjbfhcajbaaTriAll
namespace Go.Proofs.Ytfomfjbfhcajbaa
set_option linter.unusedSimpArgs false
set_option linter.unusedVariables false
set_option linter.unnecessarySimpa false
set_option maxRecDepth 100000

/-- A list whose numbers are at least 1, none greater than the one ahead, and whose sum is at most the rest. -/
def typeGo : Int → Int → List Int → Bool
  | _, _, [] => true
  | rest, ahead, x :: l => if x < 1 ∨ ahead < x ∨ rest < x then false else typeGo (rest - x) x l

def lastOr : Int → List Int → Int
  | a, [] => a
  | _, x :: l => lastOr x l

theorem lastOr_snoc : ∀ (l : List Int) (a x : Int), lastOr a (l ++ [x]) = x
  | [], _, _ => rfl
  | y :: l, _, x => lastOr_snoc l y x

theorem sumL_cons (x : Int) (l : List Int) : sumL (x :: l) = x + sumL l := by
  have : ∀ (l : List Int) (a : Int), l.foldl (· + ·) a = a + l.foldl (· + ·) 0 := by
    intro l
    induction l with
    | nil => intro a; simp
    | cons y l ih => intro a; rw [List.foldl_cons, List.foldl_cons, ih, ih (0 + y)]; omega
  unfold sumL
  rw [List.foldl_cons, this]
  omega

theorem typeGo_snoc : ∀ (l : List Int) (r a x : Int), typeGo r a (l ++ [x]) = (typeGo r a l && decide (1 ≤ x ∧ x ≤ lastOr a l ∧ x ≤ r - sumL l))
  | [], r, a, x => by
    simp only [List.nil_append, typeGo, lastOr, Bool.true_and]
    rw [show sumL [] = 0 from rfl]
    split
    · exact (decide_eq_false (by omega)).symm
    · exact (decide_eq_true (by omega)).symm
  | y :: l, r, a, x => by
    rw [List.cons_append]
    simp only [typeGo, lastOr]
    rw [sumL_cons]
    split
    · simp
    · rw [typeGo_snoc l (r - y) y x]
      congr 1
      exact decide_eq_decide.2 (by omega)

theorem typeGo_take {r a : Int} {l : List Int} (h : typeGo r a l = true) (k : Nat) : typeGo r a (l.take k) = true := by
  induction l generalizing r a k with
  | nil => simp [typeGo]
  | cons x l ih =>
    cases k with
    | zero => simp [typeGo]
    | succ k =>
      simp only [typeGo, List.take_succ_cons] at h ⊢
      split at h
      · cases h
      · rename_i hx
        rw [if_neg hx]
        exact ih h k

theorem typeGo_facts : ∀ (l : List Int) (r a : Int), 0 ≤ r → typeGo r a l = true → 0 ≤ sumL l ∧ sumL l ≤ r ∧ (l.length : Int) ≤ sumL l ∧ (∀ x ∈ l, 1 ≤ x ∧ x ≤ a ∧ x ≤ r) ∧ (lastOr a l = a ∨ 1 ≤ lastOr a l ∧ lastOr a l ≤ a)
  | [], r, a, hr, _ => ⟨by simp [sumL], by simpa [sumL] using hr, by simp [sumL], (fun x hx => by cases hx), .inl rfl⟩
  | x :: l, r, a, hr, h => by
    simp only [typeGo] at h
    split at h
    · cases h
    · rename_i hx
      obtain ⟨h1, h2, h3, h4, h5⟩ := typeGo_facts l (r - x) x (by omega) h
      rw [sumL_cons]
      refine ⟨by omega, by omega, by simp; omega, ?_, ?_⟩
      · intro y hy
        rcases List.mem_cons.1 hy with rfl | hy
        · omega
        · have := h4 y hy
          omega
      · simp only [lastOr]
        omega

/-- All types. -/
def typesFrom : Nat → Int → Int → List (List Int)
  | 0, _, _ => [[]]
  | f + 1, rest, ahead => [] :: (List.range 12).flatMap fun (i : Nat) => if ((i : Int) + 1 ≤ ahead ∧ (i : Int) + 1 ≤ rest) then (typesFrom f (rest - (i + 1)) (i + 1)).map (fun l => ((i : Int) + 1) :: l) else []

theorem types_mem : ∀ (f : Nat) (l : List Int) (r a : Int), 0 ≤ r → r ≤ f → r ≤ 12 → typeGo r a l = true → l ∈ typesFrom f r a
  | 0, [], r, a, _, _, _, _ => by simp [typesFrom]
  | 0, x :: l, r, a, h0, h1, _, h => by
    simp only [typeGo] at h
    split at h
    · cases h
    · omega
  | f + 1, [], r, a, _, _, _, _ => by simp [typesFrom]
  | f + 1, x :: l, r, a, h0, h1, h2, h => by
    simp only [typeGo] at h
    split at h
    · cases h
    · rename_i hx
      have ih := types_mem f l (r - x) x (by omega) (by omega) (by omega) h
      simp only [typesFrom]
      refine List.mem_cons_of_mem _ (List.mem_flatMap.2 ⟨(x - 1).toNat, List.mem_range.2 (by omega), ?_⟩)
      have e : (((x - 1).toNat : Nat) : Int) + 1 = x := by omega
      rw [e, if_pos (by omega)]
      exact List.mem_map.2 ⟨l, ih, rfl⟩

/-- The model's state: the sum, the divisor, the run, the number ahead. -/
def tstep (s : Int × Int × Int × Int) (x : Int) : Int × Int × Int × Int :=
  let r := if x = s.2.2.2 then s.2.2.1 + 1 else 1
  (s.1 + x, s.2.1 * (fac x.toNat : Int) * r, r, x)
def tstate (l : List Int) : Int × Int × Int × Int := l.foldl tstep (0, 1, 0, 0)

/-- Choices, quickly. -/
def cN (n k : Int) : Int := if k < 0 ∨ n < k then 0 else ((fac n.toNat / (fac k.toNat * fac (n - k).toNat) : Nat) : Int)
theorem cN_fact : ∀ n : Nat, n < 13 → ∀ k : Nat, k < 13 → fC n k = cN n k := by decide +kernel
theorem cN_is {n k : Int} (hn : 0 ≤ n ∧ n ≤ 12) (hk : 0 ≤ k ∧ k ≤ 12) : ext fC n k = cN n k := by
  obtain ⟨p, rfl⟩ := Int.eq_ofNat_of_zero_le hn.1
  obtain ⟨q, rfl⟩ := Int.eq_ofNat_of_zero_le hk.1
  rw [ext_nat]
  exact cN_fact p (by omega) q (by omega)

/-- The program's state: the rest, the ways, how many are alike, the number ahead. -/
def wstep (s : Int × Int × Int × Int) (x : Int) : Int × Int × Int × Int :=
  let r := if x = s.2.2.2 then s.2.2.1 + 1 else 1
  (s.1 - x, s.2.1 * cN s.1 x / r, r, x)
def wstate (S : Int) (l : List Int) : Int × Int × Int × Int := l.foldl wstep (S, 1, 0, 0)

theorem tstate_snoc (l : List Int) (x : Int) : tstate (l ++ [x]) = tstep (tstate l) x := by simp [tstate, List.foldl_append]
theorem wstate_snoc (S : Int) (l : List Int) (x : Int) : wstate S (l ++ [x]) = wstep (wstate S l) x := by simp [wstate, List.foldl_append]

/-- How many partitions have a type. -/
def typeNum (l : List Int) : Int := ((fac (sumL l).toNat / (tstate l).2.1.toNat : Nat) : Int)

def smallT (s : Int × Int × Int × Int) : Bool := decide (1 ≤ s.2.1 ∧ s.2.1 ≤ 479001600) && decide (0 ≤ s.2.2.1 ∧ s.2.2.1 ≤ 12)
def smallW (s : Int × Int × Int × Int) : Bool := decide (0 ≤ s.2.1 ∧ s.2.1 ≤ 1099511627776 ∧ 0 ≤ s.1)

/-- What is checked of a type. -/
def typeChk (l : List Int) : Bool := smallT (tstate l) && decide ((tstate l).1 = sumL l) && decide ((wstate (sumL l) l).2.1 = typeNum l) && decide (0 ≤ typeNum l ∧ typeNum l ≤ 1099511627776) &&
  (List.range (l.length + 1)).all fun k => smallW (wstate (sumL l) (l.take k)) && decide ((wstate (sumL l) (l.take k)).1 = sumL l - sumL (l.take k)) && decide ((wstate (sumL l) (l.take k)).2.2 = (tstate (l.take k)).2.2)

theorem types_chk : (typesFrom 12 12 12).all typeChk = true := by decide +kernel

theorem type_chk {l : List Int} (h : typeGo 12 12 l = true) : typeChk l = true := List.all_eq_true.1 types_chk l (types_mem 12 l 12 12 (by omega) (by omega) (by omega) h)

theorem types_last : (typesFrom 12 12 12).all (fun l => decide ((tstate l).2.2.2 = lastOr 0 l)) = true := by decide +kernel
theorem type_last {l : List Int} (h : typeGo 12 12 l = true) : (tstate l).2.2.2 = lastOr 0 l := of_decide_eq_true (List.all_eq_true.1 types_last l (types_mem 12 l 12 12 (by omega) (by omega) (by omega) h))

theorem cN_bd : ∀ n : Nat, n < 13 → ∀ k : Nat, k < 13 → 0 ≤ cN n k ∧ cN n k ≤ 924 := by decide +kernel
theorem cN_small {n k : Int} (hn : 0 ≤ n ∧ n ≤ 12) (hk : 0 ≤ k ∧ k ≤ 12) : 0 ≤ cN n k ∧ cN n k ≤ 924 := by
  obtain ⟨p, rfl⟩ := Int.eq_ofNat_of_zero_le hn.1
  obtain ⟨q, rfl⟩ := Int.eq_ofNat_of_zero_le hk.1
  exact cN_bd p (by omega) q (by omega)

theorem type_all {l : List Int} (h : typeGo 12 12 l = true) :
    (1 ≤ (tstate l).2.1 ∧ (tstate l).2.1 ≤ 479001600) ∧ (0 ≤ (tstate l).2.2.1 ∧ (tstate l).2.2.1 ≤ 12) ∧ (tstate l).1 = sumL l ∧ (wstate (sumL l) l).2.1 = typeNum l ∧ (0 ≤ typeNum l ∧ typeNum l ≤ 1099511627776) ∧
    ∀ k, k ≤ l.length → (0 ≤ (wstate (sumL l) (l.take k)).2.1 ∧ (wstate (sumL l) (l.take k)).2.1 ≤ 1099511627776 ∧ 0 ≤ (wstate (sumL l) (l.take k)).1) ∧ (wstate (sumL l) (l.take k)).1 = sumL l - sumL (l.take k) ∧ (wstate (sumL l) (l.take k)).2.2 = (tstate (l.take k)).2.2 := by
  have h0 := type_chk h
  unfold typeChk smallT at h0
  simp only [Bool.and_eq_true, decide_eq_true_eq, List.all_eq_true, List.mem_range] at h0
  obtain ⟨⟨⟨⟨⟨h1, h2⟩, h3⟩, h4⟩, h5⟩, h6⟩ := h0
  refine ⟨h1, h2, h3, h4, h5, fun k hk => ?_⟩
  obtain ⟨⟨h7, h8⟩, h9⟩ := h6 k (by omega)
  unfold smallW at h7
  exact ⟨of_decide_eq_true h7, h8, h9⟩

def numType (l : List Int) : Int × Bool := if typeGo 12 12 l then (typeNum l, true) else (0, false)

end Go.Proofs.Ytfomfjbfhcajbaa
