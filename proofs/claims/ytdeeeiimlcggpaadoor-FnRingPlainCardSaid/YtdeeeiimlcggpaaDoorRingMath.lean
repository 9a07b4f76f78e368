/-
  Permutations of few things, their orbits, and two lists that tell the orbits: sets as bits, and least things. No program is named here.
-/
import Derived.Test.YtdeeeiimlcggpaaDoorTurnMath
import Derived.Test.YtdeeeiimlcggpaaDoorBits
namespace Go.Proofs.YtdeeeiimlcggpaaDoor
set_option linter.unusedSimpArgs false
set_option linter.unusedVariables false
set_option linter.unnecessarySimpa false

/-- Among n + 1 numbers below n two are equal. -/
theorem pigeon : ∀ (n : Nat) (g : Nat → Nat), (∀ i, i ≤ n → g i < n) → ∃ i j, i < j ∧ j ≤ n ∧ g i = g j := by
  intro n
  induction n with
  | zero => intro g h; exact absurd (h 0 (Nat.le_refl _)) (Nat.not_lt_zero _)
  | succ n ih =>
    intro g h
    by_cases hv : ∃ i, i ≤ n ∧ g i = g (n + 1)
    · obtain ⟨i, hi, he⟩ := hv
      exact ⟨i, n + 1, by omega, Nat.le_refl _, he⟩
    · have hne : ∀ i, i ≤ n → g i ≠ g (n + 1) := fun i hi he => hv ⟨i, hi, he⟩
      have hl := h (n + 1) (Nat.le_refl _)
      obtain ⟨i, j, h1, h2, h3⟩ := ih (fun i => if g (n + 1) < g i then g i - 1 else g i) (fun i hi => by
        have a := h i (by omega)
        have b := hne i hi
        show (if g (n + 1) < g i then g i - 1 else g i) < n
        split <;> omega)
      have a := hne i (by omega)
      have b := hne j h2
      refine ⟨i, j, h1, by omega, ?_⟩
      split at h3 <;> split at h3 <;> omega

/-- Things below n led one to one. -/
structure Led (n : Nat) (f : Nat → Nat) : Prop where
  lt : ∀ x, x < n → f x < n
  inj : ∀ x y, x < n → y < n → f x = f y → x = y

def itf (f : Nat → Nat) : Nat → Nat → Nat
  | 0, x => x
  | k + 1, x => f (itf f k x)

theorem itf_add (f : Nat → Nat) (a b x : Nat) : itf f (a + b) x = itf f a (itf f b x) := by
  induction a with
  | zero => simp [itf]
  | succ a ih => rw [Nat.succ_add]; simp only [itf, ih]

theorem itf_lt {n : Nat} {f : Nat → Nat} (h : Led n f) {x : Nat} (hx : x < n) (k : Nat) : itf f k x < n := by
  induction k with
  | zero => exact hx
  | succ k ih => exact h.lt _ ih

theorem itf_inj {n : Nat} {f : Nat → Nat} (h : Led n f) {x y : Nat} (hx : x < n) (hy : y < n) (k : Nat) (e : itf f k x = itf f k y) : x = y := by
  induction k with
  | zero => exact e
  | succ k ih => exact ih (h.inj _ _ (itf_lt h hx k) (itf_lt h hy k) e)

/-- Who goes on comes back. -/
theorem itf_back {n : Nat} {f : Nat → Nat} (h : Led n f) {x : Nat} (hx : x < n) : ∃ m, 1 ≤ m ∧ m ≤ n ∧ itf f m x = x := by
  obtain ⟨i, j, h1, h2, h3⟩ := pigeon n (fun k => itf f k x) (fun i _ => itf_lt h hx i)
  refine ⟨j - i, by omega, by omega, ?_⟩
  have e : itf f i x = itf f i (itf f (j - i) x) := by rw [← itf_add, show i + (j - i) = j by omega]; exact h3
  exact (itf_inj h hx (itf_lt h hx _) i e).symm

theorem itf_mul {f : Nat → Nat} {x m : Nat} (hm : itf f m x = x) (k : Nat) : itf f (k * m) x = x := by
  induction k with
  | zero => simp [itf]
  | succ k ih => rw [Nat.succ_mul, itf_add, hm, ih]

def Orb (f : Nat → Nat) (x y : Nat) : Prop := ∃ k, itf f k x = y

theorem orb_refl (f : Nat → Nat) (x : Nat) : Orb f x x := ⟨0, rfl⟩
theorem orb_trans {f : Nat → Nat} {x y z : Nat} (h : Orb f x y) (k : Orb f y z) : Orb f x z := by
  obtain ⟨a, rfl⟩ := h
  obtain ⟨b, rfl⟩ := k
  exact ⟨b + a, itf_add f b a x⟩
theorem orb_step (f : Nat → Nat) (x : Nat) : Orb f x (f x) := ⟨1, rfl⟩
theorem orb_symm {n : Nat} {f : Nat → Nat} (h : Led n f) {x y : Nat} (hx : x < n) (k : Orb f x y) : Orb f y x := by
  obtain ⟨a, rfl⟩ := k
  obtain ⟨m, h1, _, h3⟩ := itf_back h hx
  refine ⟨a * m - a, ?_⟩
  have : a ≤ a * m := Nat.le_mul_of_pos_right a h1
  rw [← itf_add, Nat.sub_add_cancel this]
  exact itf_mul h3 a
theorem orb_lt {n : Nat} {f : Nat → Nat} (h : Led n f) {x y : Nat} (hx : x < n) (k : Orb f x y) : y < n := by
  obtain ⟨a, rfl⟩ := k
  exact itf_lt h hx a

/-- The whole orbit is met in n steps. -/
theorem orb_few {n : Nat} {f : Nat → Nat} (h : Led n f) {x y : Nat} (hx : x < n) (k : Orb f x y) : ∃ a, a < n ∧ itf f a x = y := by
  obtain ⟨a, rfl⟩ := k
  obtain ⟨m, h1, h2, h3⟩ := itf_back h hx
  refine ⟨a % m, Nat.lt_of_lt_of_le (Nat.mod_lt _ h1) h2, ?_⟩
  conv => rhs; rw [← Nat.mod_add_div a m, Nat.mul_comm m, itf_add, itf_mul h3]

/-- The things met in the first k steps, as a set of bits. -/
def metTo (f : Nat → Nat) (x : Nat) : Nat → Nat
  | 0 => 0
  | k + 1 => metTo f x k ||| 2 ^ itf f k x

theorem metTo_bit (f : Nat → Nat) (x k y : Nat) : (metTo f x k).testBit y = true ↔ ∃ j, j < k ∧ itf f j x = y := by
  induction k with
  | zero => simp [metTo]
  | succ k ih =>
    rw [metTo, Nat.testBit_or, Bool.or_eq_true, ih, Nat.testBit_two_pow]
    constructor
    · rintro (⟨j, h1, h2⟩ | h)
      · exact ⟨j, by omega, h2⟩
      · exact ⟨k, by omega, by simpa using h⟩
    · rintro ⟨j, h1, h2⟩
      by_cases hj : j = k
      · right; subst hj; simpa using h2
      · exact .inl ⟨j, by omega, h2⟩

theorem metTo_lt {n : Nat} {f : Nat → Nat} (h : Led n f) (hn : n ≤ 8) {x : Nat} (hx : x < n) (k : Nat) : metTo f x k < 256 := by
  induction k with
  | zero => exact Nat.zero_lt_succ _
  | succ k ih => exact or_lt _ ih _ (Nat.lt_of_lt_of_le (itf_lt h hx k) hn)

/-- The ring of one thing as a set of bits. -/
def ringM (f : Nat → Nat) (x : Nat) : Nat := metTo f x 8

theorem ringM_bit {n : Nat} {f : Nat → Nat} (h : Led n f) (hn : n ≤ 8) {x : Nat} (hx : x < n) (y : Nat) : (ringM f x).testBit y = true ↔ Orb f x y := by
  unfold ringM
  rw [metTo_bit]
  constructor
  · rintro ⟨j, _, h2⟩; exact ⟨j, h2⟩
  · intro k
    obtain ⟨a, h1, h2⟩ := orb_few h hx k
    exact ⟨a, by omega, h2⟩

theorem ringM_pat {n : Nat} {f : Nat → Nat} (h : Led n f) (hn : n ≤ 8) {x y : Nat} (hx : x < n) (hy : y < n) : ringM f x = ringM f y ↔ Orb f x y := by
  constructor
  · intro e
    have := (ringM_bit h hn hy y).2 (orb_refl f y)
    rw [← e] at this
    exact (ringM_bit h hn hx y).1 this
  · intro k
    apply Nat.eq_of_testBit_eq
    intro z
    have : (ringM f x).testBit z = true ↔ (ringM f y).testBit z = true := by
      rw [ringM_bit h hn hx, ringM_bit h hn hy]
      exact ⟨fun a => orb_trans (orb_symm h hx k) a, fun a => orb_trans k a⟩
    cases h1 : (ringM f x).testBit z <;> cases h2 : (ringM f y).testBit z <;> simp [h1, h2] at this ⊢

/-- Where the way comes to a thing met before, all are met. -/
theorem metTo_done {n : Nat} {f : Nat → Nat} (h : Led n f) (hn : n ≤ 8) {x : Nat} (hx : x < n) {k : Nat} (hb : (metTo f x k).testBit (itf f k x) = true) : metTo f x k = ringM f x := by
  obtain ⟨j, h1, h2⟩ := (metTo_bit f x k _).1 hb
  have e : itf f (k - j) x = x := by
    have : itf f j x = itf f j (itf f (k - j) x) := by rw [← itf_add, show j + (k - j) = k by omega]; exact h2
    exact (itf_inj h hx (itf_lt h hx _) j this).symm
  apply Nat.eq_of_testBit_eq
  intro z
  have : (metTo f x k).testBit z = true ↔ (ringM f x).testBit z = true := by
    rw [ringM_bit h hn hx, metTo_bit]
    constructor
    · rintro ⟨j, _, h2⟩; exact ⟨j, h2⟩
    · rintro ⟨a, rfl⟩
      refine ⟨a % (k - j), Nat.lt_of_lt_of_le (Nat.mod_lt _ (by omega)) (Nat.sub_le _ _), ?_⟩
      conv => rhs; rw [← Nat.mod_add_div a (k - j), Nat.mul_comm (k - j), itf_add, itf_mul e]
  cases h1 : (metTo f x k).testBit z <;> cases h2 : (ringM f x).testBit z <;> simp [h1, h2] at this ⊢

theorem metTo_room {n : Nat} {f : Nat → Nat} (h : Led n f) {x : Nat} (hx : x < n) {k : Nat} (hk : k ≤ n) (hb : (metTo f x k).testBit (itf f k x) = false) : k < n := by
  refine Nat.lt_of_le_of_ne hk fun e => ?_
  obtain ⟨m, h1, h2, h3⟩ := itf_back h hx
  have : (metTo f x k).testBit (itf f k x) = true := by
    refine (metTo_bit f x k _).2 ⟨k - m, by omega, ?_⟩
    conv => rhs; rw [show k = (k - m) + m by omega, itf_add, h3]
  rw [hb] at this
  cases this

/-- The least of the things met in the first k steps behind the first one. -/
def leastTo (f : Nat → Nat) (x : Nat) : Nat → Nat
  | 0 => x
  | k + 1 => min (leastTo f x k) (itf f (k + 1) x)

theorem leastTo_le (f : Nat → Nat) (x k j : Nat) (h : j ≤ k) : leastTo f x k ≤ itf f j x := by
  induction k with
  | zero => obtain rfl : j = 0 := by omega
            exact Nat.le_refl _
  | succ k ih =>
    rw [leastTo]
    by_cases hj : j = k + 1
    · subst hj; exact Nat.min_le_right _ _
    · exact Nat.le_trans (Nat.min_le_left _ _) (ih (by omega))

theorem leastTo_orb (f : Nat → Nat) (x k : Nat) : Orb f x (leastTo f x k) := by
  induction k with
  | zero => exact orb_refl _ _
  | succ k ih =>
    rw [leastTo]
    by_cases h : leastTo f x k ≤ itf f (k + 1) x
    · rw [Nat.min_eq_left h]; exact ih
    · rw [Nat.min_eq_right (by omega)]; exact ⟨_, rfl⟩

theorem leastTo_lt {n : Nat} {f : Nat → Nat} (h : Led n f) {x : Nat} (hx : x < n) (k : Nat) : leastTo f x k < n := orb_lt h hx (leastTo_orb f x k)

def ringL (f : Nat → Nat) (x : Nat) : Nat := leastTo f x 8

theorem ringL_le {n : Nat} {f : Nat → Nat} (h : Led n f) (hn : n ≤ 8) {x y : Nat} (hx : x < n) (k : Orb f x y) : ringL f x ≤ y := by
  obtain ⟨a, h1, rfl⟩ := orb_few h hx k
  exact leastTo_le f x 8 a (by omega)

theorem ringL_pat {n : Nat} {f : Nat → Nat} (h : Led n f) (hn : n ≤ 8) {x y : Nat} (hx : x < n) (hy : y < n) : ringL f x = ringL f y ↔ Orb f x y := by
  have ox := leastTo_orb f x 8
  have oy := leastTo_orb f y 8
  constructor
  · intro e
    have oy' : Orb f y (leastTo f x 8) := by
      have : leastTo f x 8 = leastTo f y 8 := e
      rw [this]; exact oy
    exact orb_trans ox (orb_symm h hy oy')
  · intro k
    have a := ringL_le h hn hx (orb_trans k oy)
    have b := ringL_le h hn hy (orb_trans (orb_symm h hx k) ox)
    exact Nat.le_antisymm a b

/-- Where the way comes back, the least of all is known. -/
theorem leastTo_done {n : Nat} {f : Nat → Nat} (h : Led n f) (hn : n ≤ 8) {x : Nat} (hx : x < n) {k : Nat} (e : itf f (k + 1) x = x) : leastTo f x k = ringL f x := by
  have o1 := leastTo_orb f x k
  have a := ringL_le h hn hx o1
  have o2 := leastTo_orb f x 8
  have b : leastTo f x k ≤ ringL f x := by
    obtain ⟨c, hc⟩ := o2
    show leastTo f x k ≤ leastTo f x 8
    rw [← hc]
    have : itf f c x = itf f (c % (k + 1)) x := by
      conv => lhs; rw [← Nat.mod_add_div c (k + 1), Nat.mul_comm (k + 1), itf_add, itf_mul e]
    rw [this]
    exact leastTo_le f x k _ (Nat.le_of_lt_succ (Nat.mod_lt c (Nat.succ_pos k)))
  exact Nat.le_antisymm b a

/-- Before the way has come back there is room. -/
theorem leastTo_room {n : Nat} {f : Nat → Nat} (h : Led n f) {x : Nat} (hx : x < n) {k : Nat} (hno : ∀ j, 1 ≤ j → j ≤ k → itf f j x ≠ x) : k < n := by
  obtain ⟨m, h1, h2, h3⟩ := itf_back h hx
  exact Nat.lt_of_not_le fun hk => hno m h1 (by omega) h3

/-- Two lists that tell the orbits. -/
def ringMs (f : Nat → Nat) (n : Nat) : List Int := (List.range n).map fun x => (ringM f x : Int)
def ringLs (f : Nat → Nat) (n : Nat) : List Int := (List.range n).map fun x => (ringL f x : Int)

theorem ringMs_length (f : Nat → Nat) (n : Nat) : (ringMs f n).length = n := by simp [ringMs]
theorem ringLs_length (f : Nat → Nat) (n : Nat) : (ringLs f n).length = n := by simp [ringLs]
theorem ringMs_getD (f : Nat → Nat) (n k : Nat) (h : k < n) : (ringMs f n).getD k 0 = (ringM f k : Int) := by simp [ringMs, List.getD, h]
theorem ringLs_getD (f : Nat → Nat) (n k : Nat) (h : k < n) : (ringLs f n).getD k 0 = (ringL f k : Int) := by simp [ringLs, List.getD, h]

theorem rings_same {n : Nat} {f : Nat → Nat} (h : Led n f) (hn : n ≤ 8) : kOut (ringMs f n) = kOut (ringLs f n) := by
  refine (kOut_pat _ _ (by rw [ringMs_length, ringLs_length]) fun i j hi hj => ?_).1
  rw [ringLs_length] at hi hj
  rw [ringMs_getD _ _ _ hi, ringMs_getD _ _ _ hj, ringLs_getD _ _ _ hi, ringLs_getD _ _ _ hj, Int.ofNat_inj, Int.ofNat_inj, ringM_pat h hn hi hj, ringL_pat h hn hi hj]

/-- Names all different are led one to one. -/
theorem nameFrom_bits (n : Nat) : ∀ (xs : List Int) (s : Nat), nameFrom n s xs = true → (∀ j, j < xs.length → s.testBit (xs.getD j 0).toNat = false) ∧ ∀ i j, i < j → j < xs.length → (xs.getD i 0).toNat ≠ (xs.getD j 0).toNat := by
  intro xs
  induction xs with
  | nil => intro s _; exact ⟨fun j hj => by simp at hj, fun i j _ hj => by simp at hj⟩
  | cons x xs ih =>
    intro s h
    simp only [nameFrom, Bool.and_eq_true, decide_eq_true_eq, Bool.not_eq_true'] at h
    obtain ⟨⟨hx, hs⟩, hr⟩ := h
    obtain ⟨h1, h2⟩ := ih _ hr
    have h3 : ∀ j, j < xs.length → s.testBit (xs.getD j 0).toNat = false ∧ x.toNat ≠ (xs.getD j 0).toNat := by
      intro j hj
      have := h1 j hj
      rw [Nat.testBit_or, Bool.or_eq_false_iff, Nat.testBit_two_pow] at this
      exact ⟨this.1, by simpa using this.2⟩
    constructor
    · intro j hj
      cases j with
      | zero => simpa using hs
      | succ j => simpa using (h3 j (by simpa using hj)).1
    · intro i j hij hj
      cases j with
      | zero => omega
      | succ j =>
        cases i with
        | zero => simpa using (h3 j (by simpa using hj)).2
        | succ i => simpa using h2 i j (by omega) (by simpa using hj)

/-- Where a list leads. -/
def nx (xs : List Int) (x : Nat) : Nat := (xs.getD x 0).toNat

theorem led_of_names {n : Nat} {xs : List Int} (h : namesOk n xs = true) : Led n (nx xs) := by
  simp only [namesOk, Bool.and_eq_true, decide_eq_true_eq] at h
  obtain ⟨hl, h⟩ := h
  have hr := nameFrom_range n xs 0 h
  have hb := (nameFrom_bits n xs 0 h).2
  refine ⟨fun x hx => ?_, fun x y hx hy e => ?_⟩
  · have := hr x (by omega)
    unfold nx
    omega
  · rcases Nat.lt_trichotomy x y with h1 | h1 | h1
    · exact absurd e (hb x y h1 (by omega))
    · exact h1
    · exact absurd e.symm (hb y x h1 (by omega))

/-- The partition of the rings. -/
def ringsOf (xs : List Int) : List Int := kOut (ringLs (nx xs) xs.length)
theorem ringsOf_length (xs : List Int) : (ringsOf xs).length = xs.length := by rw [ringsOf, kOut_length, ringLs_length]

end Go.Proofs.YtdeeeiimlcggpaaDoor
