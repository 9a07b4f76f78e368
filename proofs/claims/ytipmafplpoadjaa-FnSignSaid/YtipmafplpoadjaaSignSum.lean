/-
  Plain lists: the signs of what lies between two partitions of at most 6 things add up to 0, or to 1 where both are the same. Asked one by one, by the kernel.
-/
import Derived.Test.YtipmafplpoadjaaFinSign
import Derived.Test.YtipmafplpoadjaaLineIn
namespace Go.Proofs.Ytipmafplpoadjaa
set_option linter.unusedSimpArgs false
set_option linter.unusedVariables false
set_option linter.unnecessarySimpa false

/-- The pairs that are together, as bits. -/
def bitsOf (x : Int) : List Int → Nat
  | [] => 0
  | y :: ys => 2 * bitsOf x ys + if x == y then 1 else 0
def maskOf : List Int → Nat
  | [] => 0
  | x :: xs => maskOf xs * 2 ^ xs.length + bitsOf x xs
def subM (a c : Nat) : Bool := a &&& c == a

def above (a : List Int) : List (List Int) → List (List Int × Nat × Int)
  | [] => []
  | c :: L => if subM (maskOf a) (maskOf c) = true then (c, maskOf c, prodOf sgn (inner a c)) :: above a L else above a L
def sumBelow (m : Nat) : List (List Int × Nat × Int) → Int
  | [] => 0
  | (_, c, s) :: U => (if subM c m = true then s else 0) + sumBelow m U

def masksFit (L : List (List Int)) : Bool := L.all fun a => L.all fun c => finerIn a c == subM (maskOf a) (maskOf c)
def signsFit (L : List (List Int)) : Bool := L.all fun a => (above a L).all fun p => sumBelow p.2.1 (above a L) == if a == p.1 then 1 else 0

theorem masks_less : ∀ n : Nat, n < 6 → 1 ≤ n → masksFit (allL n) = true := by decide +kernel
theorem masks_six : masksFit (allL 6) = true := by decide +kernel
theorem signs_less : ∀ n : Nat, n < 6 → 1 ≤ n → signsFit (allL n) = true := by decide +kernel
theorem signs_six : signsFit (allL 6) = true := by decide +kernel

theorem masks_fit (n : Nat) (h : n < 7) (h1 : 1 ≤ n) : masksFit (allL n) = true := by
  by_cases e : n = 6
  · subst e; exact masks_six
  · exact masks_less n (by omega) h1
theorem signs_fit (n : Nat) (h : n < 7) (h1 : 1 ≤ n) : signsFit (allL n) = true := by
  by_cases e : n = 6
  · subst e; exact signs_six
  · exact signs_less n (by omega) h1

/-- The sum of the signs of those between. -/
def signSum (xs ys : List Int) : List (List Int) → Int
  | [] => 0
  | c :: L => (if (finerIn xs c && finerIn c ys) = true then prodOf sgn (inner xs c) else 0) + signSum xs ys L

theorem mem_allL {xs : List Int} (h : partIn xs = true) : xs ∈ allL xs.length := by
  have h1 := plc_bd (partIn_ok h)
  unfold allL
  rw [List.mem_map]
  refine ⟨(plc xs).toNat, by rw [List.mem_range]; omega, ?_⟩
  rw [show (((plc xs).toNat : Nat) : Int) = plc xs by omega]
  exact atL_plc (partIn_ok h)

theorem signSum_below {M : List (List Int)} (hM : masksFit M = true) {xs ys : List Int} (hx : xs ∈ M) (hy : ys ∈ M) : ∀ L : List (List Int), (∀ c ∈ L, c ∈ M) → signSum xs ys L = sumBelow (maskOf ys) (above xs L) := by
  have hf : ∀ a ∈ M, ∀ c ∈ M, finerIn a c = subM (maskOf a) (maskOf c) := by
    intro a ha c hc
    have h1 := List.all_eq_true.1 (List.all_eq_true.1 hM a ha) c hc
    simpa using h1
  intro L
  induction L with
  | nil => intro _; rfl
  | cons c L ih =>
    intro hL
    have hc := hL c (by simp)
    have hr := ih fun d hd => hL d (by simp [hd])
    simp only [signSum, above, hf xs hx c hc, hf c hc ys hy]
    by_cases h1 : subM (maskOf xs) (maskOf c) = true
    · rw [if_pos h1]
      simp only [sumBelow, h1, Bool.true_and]
      rw [hr]
    · rw [if_neg h1]
      have h2 : subM (maskOf xs) (maskOf c) = false := by simpa using h1
      simp only [h2, Bool.false_and]
      rw [hr]
      simp

theorem mem_above {a c : List Int} : ∀ {L : List (List Int)}, c ∈ L → subM (maskOf a) (maskOf c) = true → (c, maskOf c, prodOf sgn (inner a c)) ∈ above a L := by
  intro L
  induction L with
  | nil => intro h _; cases h
  | cons d L ih =>
    intro h hs
    unfold above
    rcases List.mem_cons.1 h with e | h
    · subst e
      rw [if_pos hs]
      simp
    · have := ih h hs
      split
      · exact List.mem_cons_of_mem _ this
      · exact this

theorem sign_sum {xs ys : List Int} (h : finerIn xs ys = true) (h6 : xs.length ≤ 6) : signSum xs ys (allL xs.length) = if xs = ys then 1 else 0 := by
  have h' := h
  simp only [finerIn, Bool.and_eq_true] at h'
  obtain ⟨hx, hy, hl⟩ := alike_iff.1 h'.1
  have mx := mem_allL hx
  have my := mem_allL hy
  rw [← hl] at my
  have hM := masks_fit xs.length (by omega) (partIn_len hx).1
  have hS := signs_fit xs.length (by omega) (partIn_len hx).1
  rw [signSum_below hM mx my _ (fun c hc => hc)]
  have hs : subM (maskOf xs) (maskOf ys) = true := by
    have h1 := List.all_eq_true.1 (List.all_eq_true.1 hM xs mx) ys my
    rw [h] at h1
    simpa using h1.symm
  have := List.all_eq_true.1 (List.all_eq_true.1 hS xs mx) _ (mem_above my hs)
  simpa using this

/-- A sign is not 0 and not great. -/
theorem sgp_ne : ∀ f, sgp f ≠ 0 := by
  intro f
  induction f with
  | zero => decide
  | succ f ih =>
    unfold sgp
    intro e
    rcases Int.mul_eq_zero.1 e with e | e
    · exact ih e
    · omega

theorem prod_ne : ∀ l : List Int, prodOf sgn l ≠ 0 := by
  refine snoc_induction (by decide) fun l c ih => ?_
  rw [prodOf_snoc]
  intro e
  rcases Int.mul_eq_zero.1 e with e | e
  · exact ih e
  · exact sgp_ne _ e

theorem sign_bd {xs c : List Int} (h : finerIn xs c = true) : -40320 ≤ prodOf sgn (inner xs c) ∧ prodOf sgn (inner xs c) ≤ 40320 := by
  have h1 := inner_facts h
  have h2 := prod_way sgn fA rfl sgn_mul fA_le (inner xs c) h1.1 h1.2 (inner xs c).length
  rw [List.take_length] at h2
  exact ⟨h2.1, h2.2.1⟩

/-- What one partition adds. -/
def signOf (xs ys c : List Int) : Int := if (finerIn xs c && finerIn c ys) = true then prodOf sgn (inner xs c) else 0

theorem signOf_bd (xs ys c : List Int) : -40320 ≤ signOf xs ys c ∧ signOf xs ys c ≤ 40320 := by
  unfold signOf
  split
  · rename_i h
    simp only [Bool.and_eq_true] at h
    exact sign_bd h.1
  · omega

theorem signSum_snoc (xs ys c : List Int) : ∀ L : List (List Int), signSum xs ys (L ++ [c]) = signSum xs ys L + signOf xs ys c := by
  intro L
  induction L with
  | nil => simp [signSum, signOf]
  | cons d L ih =>
    simp only [List.cons_append, signSum, ih]
    omega

theorem signSum_bd (xs ys : List Int) : ∀ L : List (List Int), -(40320 * (L.length : Int)) ≤ signSum xs ys L ∧ signSum xs ys L ≤ 40320 * (L.length : Int) := by
  intro L
  induction L with
  | nil => simp [signSum]
  | cons d L ih =>
    have h := signOf_bd xs ys d
    have e : signSum xs ys (d :: L) = signOf xs ys d + signSum xs ys L := rfl
    rw [e, List.length_cons]
    omega

theorem signSum_step (xs ys : List Int) (L : List (List Int)) (i : Nat) (h : i < L.length) : signSum xs ys (L.take (i + 1)) = signSum xs ys (L.take i) + signOf xs ys (L.getD i []) := by
  have e : L.take (i + 1) = L.take i ++ [L.getD i []] := by
    rw [List.take_succ_eq_append_getElem h]
    simp [List.getD, h]
  rw [e, signSum_snoc]

end Go.Proofs.Ytipmafplpoadjaa
