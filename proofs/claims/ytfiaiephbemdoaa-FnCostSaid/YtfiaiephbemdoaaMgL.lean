/-
  What the laws of this claim lean on: what functions of the program and of the model answer, one after another, and plain mathematics. No condition.
-/
import Derived.Test.YtfiaiephbemdoaaMgH
import Derived.Test.YtfiaiephbemdoaaMgI
import Derived.Test.YtfiaiephbemdoaaMgK
import Derived.Carry
import Derived.Deep.RegionHeld3
import Derived.StillTailTactics

set_option maxHeartbeats 800000
/-
  Plain mathematics of chapter 4: how many lists go on (opn), the place of a list (plcFrom), the list at a place (atFrom), the next one and the one ahead.
-/
namespace Go.Proofs.Ytfiaiephbemdoaa
set_option linter.unusedSimpArgs false
set_option linter.unusedVariables false
set_option linter.unnecessarySimpa false

/-- How many lists of n more numbers follow one with k blocks. -/
def opn : Nat → Int → Int
  | 0, _ => 1
  | n + 1, k => k * opn n k + opn n (k + 1)

def opnN : Nat → Nat → Nat
  | 0, _ => 1
  | n + 1, k => k * opnN n k + opnN n (k + 1)

theorem opn_nat : ∀ (n k : Nat), opn n (k : Int) = (opnN n k : Int) := by
  intro n
  induction n with
  | zero => intro k; rfl
  | succ n ih =>
    intro k
    have h2 := ih (k + 1)
    have e : ((k + 1 : Nat) : Int) = (k : Int) + 1 := by omega
    rw [e] at h2
    show (k : Int) * opn n (k : Int) + opn n ((k : Int) + 1) = _
    rw [ih k, h2]
    show _ = ((k * opnN n k + opnN n (k + 1) : Nat) : Int)
    simp

theorem opnN_bd : ∀ n, n < 9 → ∀ k, k < 9 → n + k ≤ 8 → 1 ≤ opnN n k ∧ opnN n k ≤ 4140 := by decide +kernel

theorem opn_pos : ∀ (n : Nat) (k : Int), 0 ≤ k → 1 ≤ opn n k := by
  intro n
  induction n with
  | zero => intro k _; exact Int.le_refl _
  | succ n ih =>
    intro k hk
    have h1 := ih k hk
    have h2 := ih (k + 1) (by omega)
    have h3 : 0 ≤ k * opn n k := Int.mul_nonneg hk (by omega)
    show 1 ≤ k * opn n k + opn n (k + 1)
    omega

theorem opn_bd (n : Nat) (k : Int) (hk : 0 ≤ k) (h : (n : Int) + k ≤ 8) : 1 ≤ opn n k ∧ opn n k ≤ 4140 := by
  obtain ⟨j, rfl⟩ : ∃ j : Nat, k = j := ⟨k.toNat, by omega⟩
  have := opnN_bd n (by omega) j (by omega) (by omega)
  rw [opn_nat]
  omega

theorem opn_mul_bd (n : Nat) (k x : Int) (hk : 0 ≤ k) (h : (n : Int) + k ≤ 8) (hx : 0 ≤ x) (hx8 : x ≤ 8) : 0 ≤ x * opn n k ∧ x * opn n k ≤ 33120 := by
  have h1 := opn_bd n k hk h
  refine ⟨Int.mul_nonneg hx (by omega), ?_⟩
  have h2 : x * opn n k ≤ 8 * opn n k := Int.mul_le_mul_of_nonneg_right hx8 (by omega)
  omega

theorem max_small {b x : Int} (h : x < b) : max b (x + 1) = b := by omega
theorem max_new (b : Int) : max b (b + 1) = b + 1 := by omega

/-- A list at whose head a number that may stand there stands. -/
theorem okFrom_step {b x : Int} (xs : List Int) (h0 : 0 ≤ x) (h : x ≤ b) : okFrom b (x :: xs) = okFrom (max b (x + 1)) xs := by
  by_cases e : x = b
  · subst e; rw [okFrom_new h0, max_new]
  · rw [okFrom_yes h0 (by omega), max_small (by omega)]

theorem okFrom_head {b x : Int} {xs : List Int} (h : okFrom b (x :: xs) = true) : 0 ≤ x ∧ x ≤ b ∧ okFrom (max b (x + 1)) xs = true := by
  by_cases h1 : 0 ≤ x ∧ x ≤ b
  · exact ⟨h1.1, h1.2, by rw [okFrom_step xs h1.1 h1.2] at h; exact h⟩
  · rw [okFrom_no (by omega)] at h
    cases h

/-- The number of lists ahead of one, from the place on where there are b blocks. -/
def plcFrom : Int → List Int → Int
  | _, [] => 0
  | b, x :: xs => x * opn xs.length b + plcFrom (max b (x + 1)) xs

theorem plcFrom_bd : ∀ (xs : List Int) (b : Int), 0 ≤ b → okFrom b xs = true → 0 ≤ plcFrom b xs ∧ plcFrom b xs < opn xs.length b := by
  intro xs
  induction xs with
  | nil => intro b _ _; exact ⟨Int.le_refl _, by show (0 : Int) < 1; omega⟩
  | cons x xs ih =>
    intro b hb h
    obtain ⟨h0, h1, h2⟩ := okFrom_head h
    have hp := ih (max b (x + 1)) (by omega) h2
    have ho := opn_pos xs.length b hb
    have hx : 0 ≤ x * opn xs.length b := Int.mul_nonneg h0 (by omega)
    have ho2 := opn_pos xs.length (b + 1) (by omega)
    show 0 ≤ x * opn xs.length b + _ ∧ x * opn xs.length b + _ < b * opn xs.length b + opn xs.length (b + 1)
    by_cases e : x = b
    · subst e
      rw [max_new] at hp ⊢
      omega
    · rw [max_small (by omega)] at hp ⊢
      have h3 : (x + 1) * opn xs.length b ≤ b * opn xs.length b := Int.mul_le_mul_of_nonneg_right (by omega) (by omega)
      rw [Int.add_mul, Int.one_mul] at h3
      omega

/-- The list of n numbers at a place, from where there are b blocks on. -/
def atFrom : Nat → Int → Int → List Int
  | 0, _, _ => []
  | n + 1, b, p => min (p / opn n b) b :: atFrom n (max b (min (p / opn n b) b + 1)) (p - min (p / opn n b) b * opn n b)

theorem atFrom_length : ∀ (n : Nat) (b p : Int), (atFrom n b p).length = n := by
  intro n
  induction n with
  | zero => intro b p; rfl
  | succ n ih => intro b p; simp only [atFrom, List.length_cons, ih]

/-- The number that stands first in the list at a place. -/
theorem at_head (n : Nat) (b p : Int) (hb : 0 ≤ b) (hp : 0 ≤ p) (hq : p < opn (n + 1) b) :
    0 ≤ min (p / opn n b) b ∧ min (p / opn n b) b ≤ b ∧ 0 ≤ p - min (p / opn n b) b * opn n b ∧ p - min (p / opn n b) b * opn n b < opn n (max b (min (p / opn n b) b + 1)) := by
  have ho := opn_pos n b hb
  have hd : 0 ≤ p / opn n b := Int.ediv_nonneg hp (by omega)
  have hm := Int.mul_ediv_add_emod p (opn n b)
  have hr := Int.emod_nonneg p (show opn n b ≠ 0 by omega)
  have hr2 := Int.emod_lt_of_pos p (show 0 < opn n b by omega)
  rw [Int.mul_comm] at hm
  have hq' : p < b * opn n b + opn n (b + 1) := hq
  by_cases h : p / opn n b < b
  · rw [Int.min_eq_left (by omega), max_small h]
    omega
  · rw [Int.min_eq_right (by omega), max_new]
    have h3 : b * opn n b ≤ p / opn n b * opn n b := Int.mul_le_mul_of_nonneg_right (by omega) (by omega)
    omega

theorem at_ok : ∀ (n : Nat) (b p : Int), 0 ≤ b → 0 ≤ p → p < opn n b → okFrom b (atFrom n b p) = true ∧ plcFrom b (atFrom n b p) = p := by
  intro n
  induction n with
  | zero => intro b p _ h0 h1; exact ⟨rfl, by have : p < 1 := h1; show (0 : Int) = p; omega⟩
  | succ n ih =>
    intro b p hb h0 h1
    obtain ⟨e1, e2, e3, e4⟩ := at_head n b p hb h0 h1
    have := ih (max b (min (p / opn n b) b + 1)) (p - min (p / opn n b) b * opn n b) (by omega) e3 e4
    simp only [atFrom]
    refine ⟨by rw [okFrom_step _ e1 e2]; exact this.1, ?_⟩
    simp only [plcFrom, atFrom_length]
    rw [this.2]
    omega

theorem at_plc : ∀ (xs : List Int) (b : Int), 0 ≤ b → okFrom b xs = true → atFrom xs.length b (plcFrom b xs) = xs := by
  intro xs
  induction xs with
  | nil => intro b _ _; rfl
  | cons x xs ih =>
    intro b hb h
    obtain ⟨h0, h1, h2⟩ := okFrom_head h
    have hp := plcFrom_bd xs (max b (x + 1)) (by omega) h2
    have ho := opn_pos xs.length b hb
    have hi := ih (max b (x + 1)) (by omega) h2
    have hx : min ((x * opn xs.length b + plcFrom (max b (x + 1)) xs) / opn xs.length b) b = x := by
      rw [Int.add_comm, Int.add_mul_ediv_right _ _ (by omega)]
      by_cases e : x = b
      · have : 0 ≤ plcFrom (max b (x + 1)) xs / opn xs.length b := Int.ediv_nonneg hp.1 (by omega)
        omega
      · have : plcFrom (max b (x + 1)) xs / opn xs.length b = 0 := Int.ediv_eq_zero_of_lt hp.1 (by rw [max_small (show x < b by omega)] at hp ⊢; exact hp.2)
        omega
    simp only [plcFrom, List.length_cons, atFrom]
    rw [hx, show x * opn xs.length b + plcFrom (max b (x + 1)) xs - x * opn xs.length b = plcFrom (max b (x + 1)) xs by omega, hi]

/-- Two lists at one place are the same. -/
theorem plc_inj {xs ys : List Int} {b : Int} (hb : 0 ≤ b) (hx : okFrom b xs = true) (hy : okFrom b ys = true) (hl : xs.length = ys.length) (h : plcFrom b xs = plcFrom b ys) : xs = ys := by
  rw [← at_plc xs b hb hx, ← at_plc ys b hb hy, hl, h]

theorem sizeFrom_nonneg : ∀ (xs : List Int) (b : Int), b ≤ sizeFrom b xs := by
  intro xs
  induction xs with
  | nil => intro b; exact Int.le_refl _
  | cons x xs ih => intro b; have := ih (max b (x + 1)); show b ≤ sizeFrom (max b (x + 1)) xs; omega

theorem sizeFrom_app : ∀ (u v : List Int) (b : Int), sizeFrom b (u ++ v) = sizeFrom (sizeFrom b u) v := by
  intro u
  induction u with
  | nil => intro v b; rfl
  | cons x u ih => intro v b; show sizeFrom (max b (x + 1)) (u ++ v) = _; rw [ih]; rfl

theorem okFrom_app : ∀ (u v : List Int) (b : Int), okFrom b (u ++ v) = true ↔ okFrom b u = true ∧ okFrom (sizeFrom b u) v = true := by
  intro u
  induction u with
  | nil => intro v b; simp [okFrom, sizeFrom]
  | cons x u ih =>
    intro v b
    by_cases h : 0 ≤ x ∧ x ≤ b
    · rw [List.cons_append, okFrom_step _ h.1 h.2, okFrom_step _ h.1 h.2, ih]
      rfl
    · rw [List.cons_append, okFrom_no (by omega), okFrom_no (by omega)]
      simp

/-- Behind the same beginning places differ as what follows does. -/
theorem plc_app : ∀ (u v v' : List Int) (b : Int), v.length = v'.length → plcFrom b (u ++ v') - plcFrom b (u ++ v) = plcFrom (sizeFrom b u) v' - plcFrom (sizeFrom b u) v := by
  intro u
  induction u with
  | nil => intro v v' b _; rfl
  | cons x u ih =>
    intro v v' b h
    have := ih v v' (max b (x + 1)) h
    simp only [List.cons_append, plcFrom, sizeFrom, List.length_append, h]
    omega

theorem plc_zeros : ∀ (m : Nat) (b : Int), plcFrom b (List.replicate m 0) = 0 := by
  intro m
  induction m with
  | zero => intro b; rfl
  | succ m ih => intro b; rw [List.replicate_succ, plcFrom, ih]; simp

theorem ok_zeros : ∀ (m : Nat) (b : Int), 0 ≤ b → okFrom b (List.replicate m 0) = true := by
  intro m
  induction m with
  | zero => intro b _; rfl
  | succ m ih => intro b hb; rw [List.replicate_succ, okFrom_step _ (by omega) hb]; exact ih _ (by omega)

theorem iota_succ (k : Int) (m : Nat) : iota k (m + 1) = k :: iota (k + 1) m := by
  apply List.ext_getElem
  · simp [iota]
  · intro j h1 h2
    cases j with
    | zero => simp [iota]
    | succ j => simp [iota]; omega

theorem plc_iota : ∀ (m : Nat) (b : Int), plcFrom b (iota b m) = opn m b - 1 := by
  intro m
  induction m with
  | zero => intro b; rfl
  | succ m ih =>
    intro b
    rw [iota_succ, plcFrom, max_new, ih, iota_length]
    show _ = b * opn m b + opn m (b + 1) - 1
    omega

theorem ok_iota : ∀ (m : Nat) (b : Int), 0 ≤ b → okFrom b (iota b m) = true := by
  intro m
  induction m with
  | zero => intro b _; rfl
  | succ m ih => intro b hb; rw [iota_succ, okFrom_new hb]; exact ih _ (by omega)

/-- The next one: a number that is no new one goes up, single things behind it become zeros. -/
theorem next_step (u : List Int) (x : Int) (m : Nat) (h0 : 0 ≤ x) (hx : x < sizeFrom 0 u) (hu : okFrom 0 u = true) :
    okFrom 0 (u ++ (x + 1) :: List.replicate m 0) = true ∧ plcFrom 0 (u ++ (x + 1) :: List.replicate m 0) = plcFrom 0 (u ++ x :: iota (sizeFrom 0 u) m) + 1 := by
  have hs := sizeFrom_nonneg u 0
  refine ⟨?_, ?_⟩
  · rw [okFrom_app]
    refine ⟨hu, ?_⟩
    rw [okFrom_step _ (by omega) (by omega)]
    exact ok_zeros _ _ (by omega)
  · have h := plc_app u (x :: iota (sizeFrom 0 u) m) ((x + 1) :: List.replicate m 0) 0 (by simp [iota_length])
    simp only [plcFrom, plc_zeros, List.length_replicate, iota_length] at h
    rw [max_small hx, plc_iota, Int.add_mul, Int.one_mul] at h
    omega

/-- The one ahead: a number that is not 0 goes down, zeros behind it become single things. -/
theorem before_step (u : List Int) (x : Int) (m : Nat) (h0 : 0 < x) (hx : x ≤ sizeFrom 0 u) (hu : okFrom 0 u = true) :
    okFrom 0 (u ++ (x - 1) :: iota (sizeFrom 0 u) m) = true ∧ plcFrom 0 (u ++ (x - 1) :: iota (sizeFrom 0 u) m) + 1 = plcFrom 0 (u ++ x :: List.replicate m 0) := by
  have hs := sizeFrom_nonneg u 0
  refine ⟨?_, ?_⟩
  · rw [okFrom_app]
    refine ⟨hu, ?_⟩
    rw [okFrom_step _ (by omega) (by omega), show x - 1 + 1 = x by omega, Int.max_eq_left hx]
    exact ok_iota _ _ (by omega)
  · have h := plc_app u ((x - 1) :: iota (sizeFrom 0 u) m) (x :: List.replicate m 0) 0 (by simp [iota_length])
    simp only [plcFrom, plc_zeros, List.length_replicate, iota_length] at h
    rw [show x - 1 + 1 = x by omega, Int.max_eq_left hx, plc_iota, Int.sub_mul, Int.one_mul] at h
    omega

/-- The place of a list, the list at a place. -/
def plc (xs : List Int) : Int := plcFrom 0 xs
def atL (n : Nat) (p : Int) : List Int := atFrom n 0 p

theorem atL_length (n : Nat) (p : Int) : (atL n p).length = n := atFrom_length _ _ _

theorem atL_plc {xs : List Int} (h : okFrom 0 xs = true) : atL xs.length (plc xs) = xs := at_plc xs 0 (by omega) h
theorem plc_atL (n : Nat) (p : Int) (h0 : 0 ≤ p) (h1 : p < opn n 0) : okFrom 0 (atL n p) = true ∧ plc (atL n p) = p := at_ok n 0 p (by omega) h0 h1
theorem plc_bd {xs : List Int} (h : okFrom 0 xs = true) : 0 ≤ plc xs ∧ plc xs < opn xs.length 0 := plcFrom_bd xs 0 (by omega) h

theorem atL_partIn (n : Nat) (p : Int) (hn : 1 ≤ n) (h8 : n ≤ 8) (h0 : 0 ≤ p) (h1 : p < opn n 0) : partIn (atL n p) = true := by
  have := (plc_atL n p h0 h1).1
  simp [partIn, atL_length, this, hn, h8]

theorem plc_last (n : Nat) : plc (iota 0 n) = opn n 0 - 1 := plc_iota n 0
theorem plc_first (n : Nat) : plc (List.replicate n 0) = 0 := plc_zeros n 0

/-- The last one is the only one at the last place; the first one the only one at the first place. -/
theorem is_last {xs : List Int} (h : okFrom 0 xs = true) : xs = iota 0 xs.length ↔ plc xs = opn xs.length 0 - 1 := by
  refine ⟨fun e => by rw [e, iota_length]; exact plc_last _, fun e => ?_⟩
  refine plc_inj (b := 0) (by omega) h (ok_iota _ _ (by omega)) (by rw [iota_length]) ?_
  show plc xs = plc (iota 0 xs.length)
  rw [plc_last, e]

theorem is_first {xs : List Int} (h : okFrom 0 xs = true) : xs = List.replicate xs.length 0 ↔ plc xs = 0 := by
  refine ⟨fun e => by rw [e]; exact plc_first _, fun e => ?_⟩
  refine plc_inj (b := 0) (by omega) h (ok_zeros _ _ (by omega)) (by simp) ?_
  show plc xs = plc (List.replicate xs.length 0)
  rw [plc_first, e]

/-- The list that was found is the one at the place behind. -/
theorem next_at {xs ys : List Int} (hl : ys.length = xs.length) (ho : okFrom 0 ys = true) (h : plc ys = plc xs + 1) : ys = atL xs.length (plc xs + 1) := by
  rw [← h, ← hl, atL_plc ho]

theorem before_at {xs ys : List Int} (hl : ys.length = xs.length) (ho : okFrom 0 ys = true) (h : plc ys + 1 = plc xs) : ys = atL xs.length (plc xs - 1) := by
  rw [show plc xs - 1 = plc ys by omega, ← hl, atL_plc ho]

theorem at_ok_any : ∀ (n : Nat) (b p : Int), 0 ≤ b → 0 ≤ p → okFrom b (atFrom n b p) = true := by
  intro n
  induction n with
  | zero => intro b p _ _; rfl
  | succ n ih =>
    intro b p hb hp
    have ho := opn_pos n b hb
    have hd : 0 ≤ p / opn n b := Int.ediv_nonneg hp (by omega)
    have h1 : 0 ≤ min (p / opn n b) b := by omega
    have h3 : min (p / opn n b) b * opn n b ≤ p / opn n b * opn n b := Int.mul_le_mul_of_nonneg_right (by omega) (by omega)
    have h4 := Int.ediv_mul_le p (show opn n b ≠ 0 by omega)
    simp only [atFrom]
    rw [okFrom_step _ h1 (by omega)]
    exact ih _ _ (by omega) (by omega)

theorem atL_partIn_any (n p : Nat) (hn : 1 ≤ n) (h8 : n ≤ 8) : partIn (atL n (p : Int)) = true := by
  have := at_ok_any n 0 (p : Int) (by omega) (by omega)
  simp only [partIn, atL_length, Bool.and_eq_true, decide_eq_true_eq]
  exact ⟨⟨hn, h8⟩, this⟩

theorem split_at (xs : List Int) (t : Nat) (h : t < xs.length) : xs = xs.take t ++ xs.getD t 0 :: xs.drop (t + 1) := by
  rw [← drop_cons xs t h, List.take_append_drop]

theorem take_snocI (xs : List Int) (t : Nat) (h : t < xs.length) : xs.take (t + 1) = xs.take t ++ [xs.getD t 0] := by
  rw [List.take_succ_eq_append_getElem h]
  simp [List.getD, h]

theorem okFrom_take {xs : List Int} {b : Int} (h : okFrom b xs = true) (t : Nat) : okFrom b (xs.take t) = true := by
  have := (okFrom_app (xs.take t) (xs.drop t) b).1 (by rw [List.take_append_drop]; exact h)
  exact this.1

theorem okFrom_at {xs : List Int} (h : okFrom 0 xs = true) (t : Nat) (ht : t < xs.length) : 0 ≤ xs.getD t 0 ∧ xs.getD t 0 ≤ sizeFrom 0 (xs.take t) := by
  have h1 : okFrom 0 (xs.take t ++ xs.getD t 0 :: xs.drop (t + 1)) = true := by rw [← split_at xs t ht]; exact h
  have := okFrom_head ((okFrom_app _ _ _).1 h1).2
  exact ⟨this.1, this.2.1⟩

theorem sizeFrom_snoc (u : List Int) (x b : Int) : sizeFrom b (u ++ [x]) = max (sizeFrom b u) (x + 1) := by
  rw [sizeFrom_app]; rfl

theorem size_le_len : ∀ (xs : List Int) (b : Int), 0 ≤ b → okFrom b xs = true → sizeFrom b xs ≤ b + xs.length := by
  intro xs
  induction xs with
  | nil => intro b _ _; show b ≤ _; simp
  | cons x xs ih =>
    intro b hb h
    obtain ⟨h0, h1, h2⟩ := okFrom_head h
    have := ih (max b (x + 1)) (by omega) h2
    show sizeFrom (max b (x + 1)) xs ≤ _
    simp only [List.length_cons]
    omega

/-- What the loop of the next one finds. -/
theorem next_found {xs : List Int} (h : okFrom 0 xs = true) (t : Nat) (ht : t < xs.length) (hd : xs.drop (t + 1) = iota (sizeFrom 0 (xs.take (t + 1))) (xs.length - (t + 1))) (hne : xs.getD t 0 ≠ sizeFrom 0 (xs.take t)) :
    okFrom 0 (xs.take t ++ (xs.getD t 0 + 1) :: List.replicate (xs.length - (t + 1)) 0) = true ∧ xs.take t ++ (xs.getD t 0 + 1) :: List.replicate (xs.length - (t + 1)) 0 = atL xs.length (plc xs + 1) ∧ plc xs + 1 < opn xs.length 0 := by
  have ha := okFrom_at h t ht
  have hs := next_step (xs.take t) (xs.getD t 0) (xs.length - (t + 1)) ha.1 (by omega) (okFrom_take h t)
  have he : xs.take t ++ xs.getD t 0 :: iota (sizeFrom 0 (xs.take t)) (xs.length - (t + 1)) = xs := by
    have hz : sizeFrom 0 (xs.take (t + 1)) = sizeFrom 0 (xs.take t) := by rw [take_snocI xs t ht, sizeFrom_snoc, max_small (by omega)]
    rw [← hz, ← hd, ← split_at xs t ht]
  rw [he] at hs
  have hl : (xs.take t ++ (xs.getD t 0 + 1) :: List.replicate (xs.length - (t + 1)) 0).length = xs.length := by simp; omega
  have hb := plc_bd hs.1
  have hp : plc (xs.take t ++ (xs.getD t 0 + 1) :: List.replicate (xs.length - (t + 1)) 0) = plc xs + 1 := hs.2
  refine ⟨hs.1, next_at hl hs.1 hs.2, ?_⟩
  rw [hl, hp] at hb
  exact hb.2

theorem next_more {xs : List Int} (t : Nat) (ht : t < xs.length) (hd : xs.drop (t + 1) = iota (sizeFrom 0 (xs.take (t + 1))) (xs.length - (t + 1))) (he : xs.getD t 0 = sizeFrom 0 (xs.take t)) :
    xs.drop t = iota (sizeFrom 0 (xs.take t)) (xs.length - t) := by
  rw [drop_cons xs t ht, hd, take_snocI xs t ht, sizeFrom_snoc, he, max_new, show xs.length - t = xs.length - (t + 1) + 1 by omega, iota_succ]

/-- What the loop of the one ahead finds. -/
theorem before_found {xs : List Int} (h : okFrom 0 xs = true) (t : Nat) (ht : t < xs.length) (hd : xs.drop (t + 1) = List.replicate (xs.length - (t + 1)) 0) (hne : xs.getD t 0 ≠ 0) :
    okFrom 0 (xs.take t ++ (xs.getD t 0 - 1) :: iota (sizeFrom 0 (xs.take t)) (xs.length - (t + 1))) = true ∧ xs.take t ++ (xs.getD t 0 - 1) :: iota (sizeFrom 0 (xs.take t)) (xs.length - (t + 1)) = atL xs.length (plc xs - 1) ∧ 0 ≤ plc xs - 1 := by
  have ha := okFrom_at h t ht
  have hs := before_step (xs.take t) (xs.getD t 0) (xs.length - (t + 1)) (by omega) ha.2 (okFrom_take h t)
  have he : xs.take t ++ xs.getD t 0 :: List.replicate (xs.length - (t + 1)) 0 = xs := by
    rw [← hd, ← split_at xs t ht]
  rw [he] at hs
  have hl : (xs.take t ++ (xs.getD t 0 - 1) :: iota (sizeFrom 0 (xs.take t)) (xs.length - (t + 1))).length = xs.length := by simp [iota_length]; omega
  have hb := plc_bd hs.1
  have hp : plc (xs.take t ++ (xs.getD t 0 - 1) :: iota (sizeFrom 0 (xs.take t)) (xs.length - (t + 1))) + 1 = plc xs := hs.2
  refine ⟨hs.1, before_at hl hs.1 hs.2, ?_⟩
  omega

theorem before_more {xs : List Int} (t : Nat) (ht : t < xs.length) (hd : xs.drop (t + 1) = List.replicate (xs.length - (t + 1)) 0) (he : xs.getD t 0 = 0) :
    xs.drop t = List.replicate (xs.length - t) 0 := by
  rw [drop_cons xs t ht, hd, he, show xs.length - t = xs.length - (t + 1) + 1 by omega, List.replicate_succ]

/-- Of two lists of one length the one at the greater place is greater at the first place where they differ. -/
theorem plc_less : ∀ (xs ys : List Int) (b : Int), 0 ≤ b → okFrom b xs = true → okFrom b ys = true → xs.length = ys.length → plcFrom b xs < plcFrom b ys →
    ∃ t, t < xs.length ∧ (∀ j, j < t → xs.getD j 0 = ys.getD j 0) ∧ xs.getD t 0 < ys.getD t 0 := by
  intro xs
  induction xs with
  | nil =>
    intro ys b _ _ _ hl h
    cases ys with
    | nil => exact absurd h (Int.lt_irrefl _)
    | cons y ys => cases hl
  | cons x xs ih =>
    intro ys b hb hx hy hl h
    cases ys with
    | nil => cases hl
    | cons y ys =>
      have hl' : xs.length = ys.length := by simpa using hl
      have hx := okFrom_head hx
      have hy := okFrom_head hy
      simp only [plcFrom] at h
      rcases Int.lt_trichotomy x y with c | c | c
      · exact ⟨0, by simp, fun j hj => by omega, c⟩
      · subst c
        rw [hl'] at h
        obtain ⟨t, h1, h2, h3⟩ := ih ys _ (by omega) hx.2.2 hy.2.2 hl' (by omega)
        refine ⟨t + 1, by simpa using h1, ?_, h3⟩
        intro j hj
        cases j with
        | zero => rfl
        | succ j => exact h2 j (by omega)
      · exfalso
        have b1 := plcFrom_bd ys _ (by omega) hy.2.2
        have b2 := plcFrom_bd xs _ (by omega) hx.2.2
        rw [max_small (by omega)] at b1
        rw [max_small (show y < b by omega), hl'] at h
        have b3 : (y + 1) * opn ys.length b ≤ x * opn ys.length b := Int.mul_le_mul_of_nonneg_right (by omega) (by have := opn_pos ys.length b hb; omega)
        rw [Int.add_mul, Int.one_mul] at b3
        omega

end Go.Proofs.Ytfiaiephbemdoaa

/-
  The four functions of views that start goroutines, as pure functions; sums as costs and votes. No condition.
-/
namespace Go.Proofs.Ytfiaiephbemdoaa
set_option linter.unusedVariables false
set_option linter.unusedSimpArgs false

theorem okV_of {vs : List (List Int)} (h : areV vs = true) {k : Nat} (hk : k < vs.length) : (vs.getD k []).length ≤ 5 ∧ alike (vs.getD 0 []) (vs.getD k []) = true := by
  simp only [areV, Bool.and_eq_true, List.all_eq_true] at h
  have := h.2 (vs.getD k []) (by simp [List.getD, hk])
  simpa [okV] using this
theorem areV_len {vs : List (List Int)} (h : areV vs = true) : 1 ≤ vs.length ∧ vs.length ≤ 6 := by
  simp only [areV, Bool.and_eq_true, decide_eq_true_eq] at h
  exact h.1
theorem areV_row {vs : List (List Int)} (h : areV vs = true) : ∃ L, 1 ≤ L ∧ L ≤ 5 ∧ ∀ k, k < vs.length → (vs.getD k []).length = L ∧ partIn (vs.getD k []) = true := by
  have h1 := areV_len h
  obtain ⟨a1, a2⟩ := okV_of h (k := 0) (by omega)
  have a3 := (alike_iff.1 a2).1
  refine ⟨(vs.getD 0 []).length, ?_, a1, fun k hk => ?_⟩
  · have := a3
    simp only [partIn, Bool.and_eq_true, decide_eq_true_eq] at this
    exact this.1.1
  · obtain ⟨b1, b2⟩ := okV_of h hk
    obtain ⟨b3, b4, b5⟩ := alike_iff.1 b2
    exact ⟨b5.symm, b4⟩

theorem costOf_range (a : List Int) (vs : List (List Int)) (n : Nat) (hn : n ≤ vs.length) : ((List.range n).map fun k => ((quar a (vs.getD k []) : Nat) : Int)).sum = ((costOf a (vs.take n) : Nat) : Int) := by
  induction n with
  | zero => simp [costOf]
  | succ n ih =>
    rw [List.range_succ, List.map_append, List.sum_append, ih (by omega), costOf_step a vs n (by omega)]
    simp
theorem votes_step (l : List (List Int)) (i j k : Nat) (h : k < l.length) : votes (l.take (k + 1)) i j = votes (l.take k) i j + (if (l.getD k []).getD i 0 = (l.getD k []).getD j 0 then 1 else 0) := by
  have ap : ∀ l m, votes (l ++ m) i j = votes l i j + votes m i j := by
    intro l m
    induction l with
    | nil => simp [votes]
    | cons v l ih => simp only [votes, List.cons_append, List.foldr_cons] at ih ⊢; omega
  have hk : l.getD k [] = l[k] := by simp [List.getD, h]
  rw [List.take_succ_eq_append_getElem h, ap, hk]
  simp only [votes, List.foldr_cons, List.foldr_nil, Nat.add_zero]
theorem votes_range (vs : List (List Int)) (i j n : Nat) (hn : n ≤ vs.length) : ((List.range n).map fun k => (if (vs.getD k []).getD i 0 = (vs.getD k []).getD j 0 then 1 else 0 : Int)).sum = ((votes (vs.take n) i j : Nat) : Int) := by
  induction n with
  | zero => simp [votes]
  | succ n ih =>
    rw [List.range_succ, List.map_append, List.sum_append, ih (by omega), votes_step vs i j n (by omega)]
    by_cases e : (vs.getD n []).getD i 0 = (vs.getD n []).getD j 0
    · simp only [List.map_cons, List.map_nil, List.sum_cons, List.sum_nil, if_pos e]; simp
    · simp only [List.map_cons, List.map_nil, List.sum_cons, List.sum_nil, if_neg e]; simp

theorem quar_le (a b : List Int) (h : a.length ≤ 8) : quar a b ≤ 64 := by
  have := quarTo_le a b a.length
  have h2 := Nat.mul_le_mul h h
  unfold quar
  omega
theorem costOf_le (a : List Int) (h : a.length ≤ 8) (vs : List (List Int)) : costOf a vs ≤ 64 * vs.length := by
  induction vs with
  | nil => simp [costOf]
  | cons v vs ih =>
    have := quar_le a v h
    simp only [costOf, List.foldr_cons, List.length_cons] at ih ⊢
    omega

/-- ViewCost. -/
def viewCost (a : List Int) (vs : List (List Int)) : Int × Bool := if areV vs && alike a (vs.getD 0 []) then ((costOf a vs : Nat), true) else (0, false)
end Go.Proofs.Ytfiaiephbemdoaa

/-
  impl.costs and the totals of togetherIn beside others that only leave, told of lists. No condition.
-/
namespace Go.Proofs.Ytfiaiephbemdoaa
set_option linter.unusedVariables false
set_option linter.unusedSimpArgs false
open Go.Conc Go.RowKit

theorem rows_at {w : World} {v : Value} {vs : List (List Int)} {L : Nat} (hv : RdM w v vs) (hn : 1 ≤ vs.length) (h1 : 1 ≤ L) (hL : ∀ k, k < vs.length → (vs.getD k []).length = L) :
    ∃ (vb vo vcap : Nat) (bV oV cV : Nat → Nat), v = .slice (some ⟨vb, vo, none⟩) vs.length vcap ∧ ∀ k, k < vs.length → w.cell? ⟨vb, vo + k, none⟩ = some (.slice (some ⟨bV k, oV k, none⟩) L (cV k)) ∧ Nums w (bV k) (oV k) (vs.getD k []) ∧ RdV w (.slice (some ⟨bV k, oV k, none⟩) L (cV k)) (vs.getD k []) := by
  obtain ⟨ao, ca, rs, hvl, rfl, _, _, h3, h4⟩ := hv
  rcases h3 with h | ⟨vb, vo, rfl, hc⟩
  · rw [h] at hn; simp at hn
  have key : ∀ k, ∃ t : Nat × Nat × Nat, k < vs.length → w.cell? ⟨vb, vo + k, none⟩ = some (.slice (some ⟨t.1, t.2.1, none⟩) L t.2.2) ∧ Nums w t.1 t.2.1 (vs.getD k []) ∧ RdV w (.slice (some ⟨t.1, t.2.1, none⟩) L t.2.2) (vs.getD k []) := by
    intro k
    by_cases hk : k < vs.length
    · have hrv := h4 k hk
      obtain ⟨zo, zc, e, hr, _⟩ := h4 k hk
      rw [hL k hk] at e
      rw [e] at hrv
      rcases hr with hr | ⟨b, o, rfl, hr⟩
      · have := hL k hk
        rw [hr] at this
        simp at this
        omega
      · exact ⟨(b, o, zc), fun _ => ⟨by rw [hc k hk, e], hr, hrv⟩⟩
    · exact ⟨(0, 0, 0), fun h => absurd h hk⟩
  obtain ⟨F, hF⟩ := Classical.axiomOfChoice key
  exact ⟨vb, vo, ca, fun k => (F k).1, fun k => (F k).2.1, fun k => (F k).2.2, rfl, hF⟩

theorem cell_push {w w1 : World} {o : Obj} (e : w1.heap = w.heap.push o) {a : Addr} {v : Value} (h : w.cell? a = some v) : w1.cell? a = some v := by
  have hb : a.block < w.heap.size := World.block_lt_of_cell? w _ h
  unfold World.cell? at h ⊢
  rw [e, Array.getElem?_push_lt hb, ← Array.getElem?_eq_getElem hb]
  exact h
theorem nums_push {w w1 : World} {o : Obj} (e : w1.heap = w.heap.push o) {b off : Nat} {xs : List Int} (h : Nums w b off xs) : Nums w1 b off xs := fun j hj => cell_push e (h j hj)
theorem cell_pushed {w w1 : World} {v : Value} {t : TypeId} (e : w1.heap = w.heap.push (.cells #[v] t)) : w1.cell? ⟨w.heap.size, 0, none⟩ = some v := by simp [World.cell?, e]

theorem own_sums {w' : World} {B S q : Nat} {ys : Array Value} {xs : List Int} (hB : B ≤ S) (h1 : w'.heap[S]? = some (.cells ys 3)) (h2 : ys.size = q) (hq : xs.length = q) (hqm : q ≤ maxLen) (h3 : ∀ x, x < q → ys[x]? = some (.int .i64 (xs.getD x 0))) : Own w' B (.slice (some ⟨S, 0, none⟩) q q) xs := by
  subst hq
  refine ⟨by simp, .inr ⟨S, xs.length, ys, rfl, hB, h1, Nat.le_refl _, hqm, by omega, ?_⟩⟩
  refine List.ext_getElem? fun i => ?_
  rw [Nat.mul_one, List.take_of_length_le (by rw [Array.length_toList]; omega)]
  by_cases hi : i < xs.length
  · rw [Array.getElem?_toList, h3 i hi]
    simp [List.getD, hi]
  · rw [List.getElem?_eq_none (by rw [Array.length_toList]; omega), List.getElem?_eq_none (by simp; omega)]

/-- The sums behind all views. -/
theorem sumC_all (avs : Nat → Nat → Int) (n x : Nat) : sumC avs n 0 x = ((List.range n).map fun i => avs i x).sum := by simp [sumC]

section
variable {X w : World}
theorem bel_sums {w1 w' : World} {o : Obj} {v : Value} {n q : Nat} {avs : Nat → Nat → Int} (e : w1.heap = w.heap.push o) (e1 : w1.os = w.os) (e2 : w1.output = w.output) (h : Sums w1 n q avs v w') : Bel w w' := by
  have hs : w1.heap.size = w.heap.size + 1 := by rw [e, Array.size_push]
  obtain ⟨ys, h1, _⟩ := h.sums
  have := (Array.getElem?_eq_some_iff.1 h1).1
  refine ⟨h.os.trans e1, h.output.trans e2, by omega, fun b hb => ?_⟩
  rw [h.old b (by omega), e, Array.getElem?_push_lt hb, ← Array.getElem?_eq_getElem hb]

set_option maxRecDepth 100000 in
set_option maxHeartbeats 1600000 in
/-- impl.costs. -/
theorem costs_v {pv vv : Value} {ps vs : List (List Int)} {L : Nat} (hp : RdM w pv ps) (hv : RdM w vv vs) (h1 : 1 ≤ L) (h8 : L ≤ 8) (hpl : ∀ k, k < ps.length → (ps.getD k []).length = L) (hvl : ∀ k, k < vs.length → (vs.getD k []).length = L)
    (hp1 : 1 ≤ ps.length) (hpm : ps.length ≤ 10000) (hv1 : 1 ≤ vs.length) (hv6 : vs.length ≤ 6) :
    CallsB (duo Try.prog X) 32 #[pv, vv] w (fun v w' => Own w' w.heap.size v (ps.map fun p => ((costOf p vs : Nat) : Int)) ∧ Bel w w') := by
  obtain ⟨pb, po, pcap, bP, oP, cP, rfl, hP⟩ := rows_at hp hp1 h1 hpl
  obtain ⟨vb, vo, vcap, bV, oV, cV, rfl, hV⟩ := rows_at hv hv1 h1 hvl
  refine costs_b (X := X) fun w1 e e1 e2 => ?_
  obtain ⟨avs, havs⟩ : ∃ avs : Nat → Nat → Int, avs = fun c l => ((quar (ps.getD l []) (vs.getD c []) : Nat) : Int) := ⟨_, rfl⟩
  have hsum : ∀ c x, c ≤ vs.length → x < ps.length → ((List.range c).map fun i => avs i x).sum = ((costOf (ps.getD x []) (vs.take c) : Nat) : Int) := fun c x hc hx => by
    rw [havs]; exact costOf_range _ _ _ hc
  have hq64 : ∀ c x, x < ps.length → 0 ≤ avs c x ∧ avs c x ≤ 64 := fun c x hx => by
    rw [havs]
    have := quar_le (ps.getD x []) (vs.getD c []) (by rw [hpl x hx]; exact h8)
    simp only
    omega
  have hcl : ∀ c x, x < ps.length → costOf (ps.getD x []) (vs.take c) ≤ 64 * 6 := fun c x hx => by
    have := costOf_le (ps.getD x []) (by rw [hpl x hx]; exact h8) (vs.take c)
    simp only [List.length_take] at this
    omega
  have hask := hask_costs (X := X) (w := w1) (n := vs.length) (q := ps.length) (L := L) (pcap := pcap) (cP := cP) (cV := cV) (P := fun x => ps.getD x []) (V := fun k => vs.getD k []) h1 h8 (cell_pushed e) (fun x hx => cell_push e (hP x hx).1) (fun x hx => ⟨nums_push e (hP x hx).2.1, hpl x hx⟩) (fun k hk => ⟨nums_push e (hV k hk).2.1, hvl k hk⟩)
  refine (totals_b (X := X) (w := w1) (n := vs.length) (q := ps.length) (vb := vb) (vo := vo) (vcap := vcap) (row := fun k => .slice (some ⟨bV k, oV k, none⟩) L (cV k)) (avs := avs) (by omega) (by omega) (by omega) ?_ (fun i hi => cell_push e (hV i hi).1) (fun i _ => ⟨_, _, _, rfl⟩) (by rw [havs]; exact hask)).mono fun v w' hs => ⟨?_, bel_sums e e1 e2 hs⟩
  · intro c l x hc hl hx
    unfold sumC
    rw [hsum c x (by omega) hx]
    have a := hcl c x hx
    have b := hq64 c x hx
    split <;> omega
  · obtain ⟨ys, y1, y2, y3⟩ := hs.sums
    rw [hs.val]
    have hsz : w1.heap.size = w.heap.size + 1 := by rw [e, Array.size_push]
    refine own_sums (by omega) y1 y2 (by simp) (by unfold maxLen; omega) fun x hx => ?_
    rw [y3 x hx, sumC_all, hsum vs.length x (Nat.le_refl _) hx, List.take_length]
    simp [List.getD, hx]
end
end Go.Proofs.Ytfiaiephbemdoaa

/-
  impl.ViewCost beside others that only leave. No condition.
-/
namespace Go.Proofs.Ytfiaiephbemdoaa
set_option linter.unusedVariables false
set_option linter.unusedSimpArgs false
open Go.Conc Go.RowKit

/-- A kept function in which no call of a struck one stands. -/
theorem calls_kept {X w : World} {f : FuncId} {fn : Func} {cd : Code} {args : Array Value} {R : Value → World → Prop} (hp : (cutP Try.prog).funcs[f]? = some fn) (hP : Try.prog.funcs[f]? = some fn) (hb : fn.body = some cd) (hok : okCode Try.prog cd = true) (hi : Try.prog.inits.idxOf? f = none)
    (h : ∀ τ, Calls (cutP Try.prog) f args (ownTape w τ) fun e w' => ∃ v, e = .returned v ∧ R v w') : CallsB (duo Try.prog X) f args w R := by
  refine CallsB.of_calls kit ⟨fn, hp, hP⟩ ?_ fun τ => (h τ).mono ?_
  · have e : Frame.enter Try.prog f args .normal = { (default : Frame) with fn := f, kind := .normal }.at { tmps := args ++ Array.replicate (fn.ntmps - args.size) undef, defers := [] } [.code cd] := by
      simp [Frame.enter, Frame.at, hP, hb]
    show okFrame (duo Try.prog X) (Frame.enter Try.prog f args .normal)
    rw [e]
    refine ⟨fun it hit => ?_, fun d hd => (by cases hd), rfl, hi, fun _ => ⟨fn, hp, hP⟩⟩
    obtain rfl : it = .code cd := by simpa [Frame.at] using hit
    exact hok
  · rintro e w' ⟨v, rfl, hv⟩
    exact hv

theorem CallsB.own {T : Two} {f : FuncId} {args : Array Value} {w : World} {R : Value → World → Prop} {τ : Nat → Question → Nat} (h : CallsB T f args w R) : CallsB T f args (ownTape w τ) R :=
  fun c H fr cs h1 h2 h3 h4 => h c H fr cs h1 ⟨h2.size, h2.os, h2.output, h2.out, h2.hid, h2.ok, h2.low, h2.grown⟩ h3 h4

theorem bel_of_below {w w' : World} {τ : Nat → Question → Nat} (h : Below w.heap.size (ownTape w τ) w') : Bel w w' := ⟨h.os, h.output, h.size, h.block⟩
theorem Bel.refl (w : World) : Bel w w := ⟨rfl, rfl, Nat.le_refl _, fun _ _ => rfl⟩
theorem Bel.trans {a b c : World} (h : Bel a b) (k : Bel b c) : Bel a c := ⟨k.os.trans h.os, k.output.trans h.output, Nat.le_trans h.size k.size, fun i hi => (k.block i (Nat.lt_of_lt_of_le hi h.size)).trans (h.block i hi)⟩
theorem Bel.cell {w w' : World} (h : Bel w w') {a : Addr} {v : Value} (hc : w.cell? a = some v) : w'.cell? a = some v := by
  have hb : a.block < w.heap.size := World.block_lt_of_cell? w _ hc
  unfold World.cell? at hc ⊢
  rw [h.block _ hb]
  exact hc
theorem Bel.rdv {w w' : World} (h : Bel w w') {v : Value} {xs : List Int} (hv : RdV w v xs) : RdV w' v xs := by
  obtain ⟨ao, cap, e, hr, h2⟩ := hv
  refine ⟨ao, cap, e, ?_, h2⟩
  rcases hr with hr | ⟨b, off, e2, hc⟩
  · exact .inl hr
  · exact .inr ⟨b, off, e2, fun j hj => h.cell (hc j hj)⟩
theorem Bel.rdm {w w' : World} (h : Bel w w') {v : Value} {vs : List (List Int)} (hv : RdM w v vs) : RdM w' v vs := by
  obtain ⟨ao, ca, rs, hvl, e, h1, h2, h3, h4⟩ := hv
  refine ⟨ao, ca, rs, hvl, e, h1, h2, ?_, fun i hi => h.rdv (h4 i hi)⟩
  rcases h3 with hr | ⟨b, off, e2, hc⟩
  · exact .inl hr
  · exact .inr ⟨b, off, e2, fun j hj => h.cell (hc j hj)⟩
theorem Bel.alloc (w : World) (o : Obj) : Bel w (w.alloc o) := ⟨rfl, rfl, by rw [alloc_size]; omega, fun b hb => push_old hb⟩
theorem rdm_one {w : World} {v0 : Value} {xs : List Int} (h : RdV w v0 xs) (t : TypeId) : RdM (w.alloc (.cells #[v0] t)) (.slice (some ⟨w.heap.size, 0, none⟩) 1 1) [xs] := by
  refine ⟨_, 1, [v0], rfl, rfl, Nat.le_refl _, by unfold maxLen; omega, .inr ⟨w.heap.size, 0, rfl, fun i hi => ?_⟩, fun i hi => ?_⟩
  · obtain rfl : i = 0 := by simp at hi; exact hi
    exact cell_in (push_at (w := w) (o := .cells #[v0] t) rfl) rfl
  · obtain rfl : i = 0 := by simp at hi; exact hi
    exact (Bel.alloc w _).rdv h
theorem own_first {w : World} {B : Nat} {v : Value} {x : Int} {xs : List Int} (h : Own w B v (x :: xs)) : ∃ g cap, v = .slice (some ⟨g, 0, none⟩) (xs.length + 1) cap ∧ w.cell? ⟨g, 0, none⟩ = some (.int .i64 x) := by
  rcases own_view h with ⟨_, e⟩ | ⟨g, cap, e, _, _, _, _, hc, _⟩
  · cases e
  · exact ⟨g, cap, e, by simpa using hc 0 (by simp)⟩
end Go.Proofs.Ytfiaiephbemdoaa

/-
  The contracts of what draws: spec.l6Open, (*l6Rd).pick, spec.l91Part, spec.l91Some.
-/
namespace Go.Proofs.Ytfiaiephbemdoaa
set_option linter.unusedSimpArgs false
set_option linter.unusedVariables false
set_option linter.unnecessarySimpa false
open Go.RowKit
set_option maxRecDepth 100000

theorem heap_setCell2 {W : World} {B : Nat} {u v : Value} {t : TypeId} (v' : Value) (h : W.heap[B]? = some (.cells #[u, v] t (0, 0))) : (W.setCell ⟨B, 1, none⟩ v').heap[B]? = some (.cells #[u, v'] t (0, 0)) := by
  obtain ⟨hlt, hk⟩ := Array.getElem?_eq_some_iff.1 h
  show (W.heap.modify B _)[B]? = _
  rw [Array.getElem?_eq_getElem (by rw [Array.size_modify]; exact hlt), Array.getElem_modify_self, hk]
  rfl

/-- At block g lies what draws: it reads the bytes 'bs', and stands at p. -/
def Rdr (w : World) (g : Nat) (bs : Value) (p : Nat) : Prop := w.heap[g]? = some (.cells #[bs, .int .i64 p] 71 (0, 0))

theorem rdr_facts {w : World} {g p : Nat} {bs : Value} (h : Rdr w g bs p) :
    g < w.heap.size ∧ w.cell? ⟨g, 0, none⟩ = some bs ∧ w.cell? ⟨g, 1, none⟩ = some (.int .i64 p) ∧ w.frozen? ⟨g, 1, none⟩ = false := by
  unfold Rdr at h
  refine ⟨(Array.getElem?_eq_some_iff.1 h).1, ?_, ?_, ?_⟩ <;> simp [World.cell?, World.frozen?, h]

/-- Each of the first 'len' bytes at the address can be read. -/
def Bytes (w : World) (a : Option Addr) (len : Nat) : Prop :=
  len = 0 ∨ ∃ b off, a = some ⟨b, off, none⟩ ∧ ∀ j, j < len → ∃ x : Nat, x ≤ 255 ∧ w.cell? ⟨b, off + j, none⟩ = some (.int .u8 x)

theorem bytes_below {w w' : World} {a : Option Addr} {len : Nat} (h : Bytes w a len) (hb : Below w.heap.size w w') : Bytes w' a len := by
  rcases h with h | ⟨b, off, ha, hc⟩
  · exact .inl h
  · refine .inr ⟨b, off, ha, fun j hj => ?_⟩
    obtain ⟨x, hx, hcx⟩ := hc j hj
    exact ⟨x, hx, by rw [hb.cell (World.block_lt_of_cell? w _ hcx)]; exact hcx⟩

theorem bytes_short {w : World} {a : Option Addr} {len m : Nat} (h : Bytes w a len) (hm : m ≤ len) : Bytes w a m := by
  rcases h with h | ⟨b, off, ha, hc⟩
  · exact .inl (by omega)
  · exact .inr ⟨b, off, ha, fun j hj => hc j (by omega)⟩

set_option maxHeartbeats 400000 in
theorem l6Open_any (a : Option Addr) (len cap : Nat) (w : World) (hby : Bytes w a len) (hlen : len ≤ 1048576) (hc : len ≤ cap) (hcm : cap ≤ maxLen) :
    Calls (cutP Try.prog) 39 #[.slice a len cap] w fun e w' => e = .returned (.pointer (some ⟨w.heap.size, 0, none⟩)) ∧
      ∃ m, m ≤ 2000 ∧ Bytes w a m ∧ Rdr w' w.heap.size (.slice a m cap) 0 ∧ Below w.heap.size w w' ∧ w.heap.size < w'.heap.size := by
  have HB := Lib.hid hby
  clear hby
  by_cases hl : len > 2000
  · go_enter Tryp.func39, Tryp.ntmps39
    go_wp2
    go_ret
    refine ⟨rfl, 2000, Nat.le_refl _, bytes_short HB.out (by omega), ?_, (Below.refl _ _).alloc (Nat.le_refl _) _, by rw [World.size_alloc]; omega⟩
    unfold Rdr World.alloc
    exact Array.getElem?_push_size
  · go_enter Tryp.func39, Tryp.ntmps39
    go_wp2
    go_ret
    refine ⟨rfl, len, by omega, HB.out, ?_, (Below.refl _ _).alloc (Nat.le_refl _) _, by rw [World.size_alloc]; omega⟩
    unfold Rdr World.alloc
    exact Array.getElem?_push_size

theorem xor_small (a b : Nat) (ha : a < 2 ^ 32) (hb : b < 2 ^ 32) : bits .xor .i64 (a : Int) (b : Int) = ((a ^^^ b : Nat) : Int) := by
  have hx := Nat.xor_lt_two_pow ha hb
  have e : (2 : Nat) ^ 64 = 18446744073709551616 := by decide
  have e32 : (2 : Nat) ^ 32 = 4294967296 := by decide
  have ha' : a % 2 ^ IntKind.i64.bits = a := Nat.mod_eq_of_lt (show a < 2 ^ 64 by omega)
  have hb' : b % 2 ^ IntKind.i64.bits = b := Nat.mod_eq_of_lt (show b < 2 ^ 64 by omega)
  have : bits .xor .i64 (a : Int) (b : Int) = IntKind.i64.wrap ((a ^^^ b : Nat) : Int) := by
    simp only [bits, BitVec.ofInt_natCast, BitVec.toNat_xor, BitVec.toNat_ofNat, ha', hb']
  rw [this, IntKind.wrap_i64]
  omega

/-- What a byte behind the last one is mixed from. -/
def mixed (x y p d : Nat) : Nat := x * 131 + y * 1117 + p * 29 + d * 53

theorem mixed_at (x y p d n : Nat) (hx : x ≤ 255) (hy : y ≤ 255) (hp : p ≤ 1000000) (hd : d ≤ 1000000) :
    (bits BinOp.xor IntKind.i64 (↑x * 131 + ↑y * 1117 + ↑p * 29 + ↑d * 53) ((↑x * 131 + ↑y * 1117 + ↑p * 29 + ↑d * 53) / 64)).tmod (n : Int) = (((mixed x y p d ^^^ mixed x y p d / 64) % n : Nat) : Int) := by
  have hm : mixed x y p d < 2 ^ 32 := by unfold mixed; omega
  have e3 : (x : Int) * 131 + y * 1117 + p * 29 + d * 53 = ((mixed x y p d : Nat) : Int) := by
    unfold mixed
    omega
  rw [e3]
  generalize mixed x y p d = m at *
  have e4 : (m : Int) / 64 = ((m / 64 : Nat) : Int) := by omega
  rw [e4, xor_small m (m / 64) hm (by omega), Int.tmod_eq_emod_of_nonneg (by omega)]
  exact (Int.natCast_emod _ _).symm

/-- What a draw from 0 to n - 1 leaves. -/
def Picked (w : World) (g : Nat) (bs : Value) (p n : Nat) (e : Ending) (w' : World) : Prop :=
  ∃ r : Nat, e = .returned (.int .i64 r) ∧ r < n ∧ Rdr w' g bs (p + 1) ∧ w.grownBy w' (some g) ∧ w'.heap.size = w.heap.size

set_option maxHeartbeats 1000000 in
theorem pick_any (g : Nat) (a : Option Addr) (len cap p n : Nat) (w : World) (hr : Rdr w g (.slice a len cap) p) (hby : Bytes w a len) (hne : 0 < len → ∀ x, a = some x → x.block ≠ g) (hlen : len ≤ 2000) (hp : p ≤ 1000000) (hn : 1 ≤ n) (hn2 : n ≤ 100000) :
    Calls (cutP Try.prog) 42 #[.pointer (some ⟨g, 0, none⟩), .int .i64 n] w (Picked w g (.slice a len cap) p n) := by
  obtain ⟨hg, hc0, hc1, hfz⟩ := rdr_facts hr
  have HS := Lib.hid (heap_setCell2 (.int .i64 ((p : Int) + 1)) hr)
  have hgr : w.grownBy (w.setCell ⟨g, 1, none⟩ (.int .i64 ((p : Int) + 1))) (some g) :=
    ⟨rfl, rfl, rfl, by simp [World.setCell], fun k _ hk => Below.heap_setCell w _ _ k fun e => hk (by rw [e])⟩
  have HG := Lib.hid hgr
  clear hgr hr
  have HB := Lib.hid hby
  clear hby
  by_cases h0 : len = 0
  · subst h0
    go_enter Tryp.func42, Tryp.ntmps42
    go_wp2
    go_ret
    exact ⟨0, rfl, by omega, by simpa [Rdr] using HS.out, HG.out, by simp [World.setCell]⟩
  · rcases HB.out with h | ⟨b, off, rfl, hcs⟩
    · exact absurd h h0
    have hbg : b ≠ g := hne (by omega) _ rfl
    have hgb : g ≠ b := fun e => hbg e.symm
    have hz : ((len : Int) == 0) = false := by simp; omega
    have hcs' : ∀ j, j < len → ∃ x : Nat, x ≤ 255 ∧ (w.setCell ⟨g, 1, none⟩ (.int .i64 ((p : Int) + 1))).cell? ⟨b, off + j, none⟩ = some (.int .u8 x) := fun j hj => by
      obtain ⟨x, hx, hc⟩ := hcs j hj
      exact ⟨x, hx, by rw [World.cell?_setCell_far _ _ _ _ hgb]; exact hc⟩
    by_cases hlt : p < len
    · obtain ⟨x, hx, hcx⟩ := hcs' p hlt
      clear hcs hcs'
      go_enter Tryp.func42, Tryp.ntmps42
      go_wp2
      go_ret
      refine ⟨x % n, ret_int (Int.natCast_emod x n).symm, Nat.mod_lt _ (by omega), by simpa [Rdr] using HS.out, HG.out, by simp [World.setCell]⟩
    · obtain ⟨q, hq⟩ : ∃ q, q = p % len := ⟨_, rfl⟩
      obtain ⟨q', hq'⟩ : ∃ q', q' = (p * 7 + 3) % len := ⟨_, rfl⟩
      obtain ⟨x, hx, hcx⟩ := hcs' q (by rw [hq]; exact Nat.mod_lt _ (by omega))
      obtain ⟨y, hy, hcy⟩ := hcs' q' (by rw [hq']; exact Nat.mod_lt _ (by omega))
      clear hcs hcs'
      have hqi : ((p : Int) % (len : Int)) = (q : Int) := by rw [hq]; exact (Int.natCast_emod p len).symm
      have hqi' : (((p : Int) * 7 + 3) % (len : Int)) = (q' : Int) := by rw [hq', Int.natCast_emod]; rfl
      have hql : q < len := by rw [hq]; exact Nat.mod_lt _ (by omega)
      have hql' : q' < len := by rw [hq']; exact Nat.mod_lt _ (by omega)
      clear hq hq'
      obtain ⟨d, hd⟩ : ∃ d, d = p / len := ⟨_, rfl⟩
      have hdi : ((p : Int) / (len : Int)) = (d : Int) := by rw [hd]; exact (Int.natCast_ediv p len).symm
      have hdl : d ≤ 1000000 := by rw [hd]; exact Nat.le_trans (Nat.div_le_self _ _) hp
      clear hd
      have hle : (len : Int) ≤ p := by omega
      go_enter Tryp.func42, Tryp.ntmps42
      go_wp2
      go_quiet (fail)
      go_wp2
      go_ret
      refine ⟨(mixed x y p d ^^^ mixed x y p d / 64) % n, ?_, Nat.mod_lt _ (by omega), by simpa [Rdr, World.drewN, World.setCell] using HS.out, ?_, by simp [World.setCell]⟩
      · exact ret_int (mixed_at x y p d n hx hy hp hdl)
      · exact grown_trans HG.out (below_drewN (Below.refl _ _) nq |> grown_of_below |> fun h => ⟨h.os, h.tape, h.output, h.size, fun k hk _ => h.block k hk (by simp)⟩)

end Go.Proofs.Ytfiaiephbemdoaa

/-
  Small laws for walks of laws beside others that only leave: what is held of the world does not hang on the tape. No condition.
-/
namespace Go.Proofs.Ytfiaiephbemdoaa
set_option linter.unusedVariables false
set_option linter.unusedSimpArgs false
open Go.Conc Go.RowKit

section
variable {w W W1 : World} {τ : Nat → Question → Nat} {v : Value} {xs : List Int} {xss : List (List Int)} {B S : Nat}
theorem rdv_ownT (h : RdV W v xs) : RdV (ownTape W τ) v xs := h
theorem rdm_ownT (h : RdM W v xss) : RdM (ownTape W τ) v xss := h
theorem own_ownT (h : Own W B v xs) : Own (ownTape W τ) B v xs := h
theorem ownM_ownT (h : OwnM W B S v xss) : OwnM (ownTape W τ) B S v xss := h
theorem bel_ownT (h : Bel w W) : Bel w (ownTape W τ) := ⟨h.os, h.output, h.size, h.block⟩
theorem Bel.below (h : Bel w W) (k : Below W.heap.size W W1) : Bel w W1 := h.trans ⟨k.os, k.output, k.size, k.block⟩
theorem own_bel (h : Own W B v xs) (k : Bel W W1) : Own W1 B v xs := by
  refine ⟨h.1, ?_⟩
  rcases h.2 with h | ⟨g, cap, cur, e, hb, hg, h2⟩
  · exact .inl h
  · exact .inr ⟨g, cap, cur, e, hb, (k.block g (Array.getElem?_eq_some_iff.1 hg).1).trans hg, h2⟩
theorem ownM_bel (h : OwnM W B S v xss) (k : Bel W W1) : OwnM W1 B S v xss := by
  obtain ⟨vs, hl, ho, hi, hr, ha⟩ := h
  refine ⟨vs, hl, ⟨ho.1, ?_⟩, hi, fun i hi' => ⟨own_bel (hr i hi').1 k, (hr i hi').2⟩, ha⟩
  rcases ho.2 with h | ⟨g, cap, cur, e, hb, hg, h2⟩
  · exact .inl h
  · exact .inr ⟨g, cap, cur, e, hb, (k.block g (Array.getElem?_eq_some_iff.1 hg).1).trans hg, h2⟩
theorem size_ownT {n : Nat} (h : n ≤ W.heap.size) : n ≤ (ownTape W τ).heap.size := h
theorem size_below {n : Nat} (h : n ≤ W.heap.size) (k : Below W.heap.size W W1) : n ≤ W1.heap.size := Nat.le_trans h k.size
theorem size_touch {n : Nat} (h : n ≤ W.heap.size) (k : Touch W W1 B S) : n ≤ W1.heap.size := by rw [k.size]; exact h
theorem Bel.touch (a : Bel w W) (k : Touch W W1 B S) (hB : w.heap.size ≤ B) : Bel w W1 :=
  ⟨k.os.trans a.os, k.output.trans a.output, by rw [k.size]; exact a.size, fun i hi => (k.block i (.inl (by omega))).trans (a.block i hi)⟩
end

/-! ### from the cut world to the whole one -/
theorem cell_veil {W : World} {a : Addr} {v : Value} (h : W.cell? a = some v) : (veilW W).cell? a = some v := by
  unfold World.cell? at h ⊢
  rw [veilW_get]
  cases hb : W.heap[a.block]? with
  | none => rw [hb] at h; cases h
  | some o =>
    rw [hb] at h
    cases o <;> first | exact h | cases h
theorem rdv_veil {W : World} {v : Value} {xs : List Int} (h : RdV W v xs) : RdV (veilW W) v xs := by
  obtain ⟨ao, cap, e, hr, h2⟩ := h
  refine ⟨ao, cap, e, ?_, h2⟩
  rcases hr with hr | ⟨b, off, e2, hc⟩
  · exact .inl hr
  · exact .inr ⟨b, off, e2, fun j hj => cell_veil (hc j hj)⟩
theorem rdm_veil {W : World} {v : Value} {vs : List (List Int)} (h : RdM W v vs) : RdM (veilW W) v vs := by
  obtain ⟨ao, ca, rs, hvl, e, h1, h2, h3, h4⟩ := h
  refine ⟨ao, ca, rs, hvl, e, h1, h2, ?_, fun i hi => rdv_veil (h4 i hi)⟩
  rcases h3 with hr | ⟨b, off, e2, hc⟩
  · exact .inl hr
  · exact .inr ⟨b, off, e2, fun j hj => cell_veil (hc j hj)⟩

theorem bytes_veil {W : World} {a : Option Addr} {len : Nat} (h : Bytes W a len) : Bytes (veilW W) a len := by
  rcases h with h | ⟨b, off, e, hc⟩
  · exact .inl h
  · exact .inr ⟨b, off, e, fun j hj => by obtain ⟨x, h1, h2⟩ := hc j hj; exact ⟨x, h1, cell_veil h2⟩⟩
theorem bytes_ownT {W : World} {τ : Nat → Question → Nat} {a : Option Addr} {len : Nat} (h : Bytes W a len) : Bytes (ownTape W τ) a len := h

/-- All that was is as it was. -/
structure Keeps (W W' : World) : Prop where
  os : W'.os = W.os
  output : W'.output = W.output
  block : ∀ b, b < W.heap.size → W'.heap[b]? = W.heap[b]?
theorem Keeps.frame {W W' : World} (h : Keeps W W') (may : MemPlace → Prop) : W.keptBut W' may := by
  refine ⟨h.os, h.output, fun i hi => ?_⟩
  rw [h.block i hi]
  split <;> simp_all
theorem Keeps.same {W W' : World} (h : Keeps W W') {p : MemPlace} (hp : p.block < W.heap.size) : W.sameAt W' p := by
  cases p with
  | cell b o => exact World.cell?_of_block (w := W) (h.block b hp)
  | map b => exact h.block b hp
theorem Keeps.trod {H : Type} {enc : TypeId × Value → H} {P : Program} {t : TypeId} (hl : laidOutB P = true) (hr : P.readableRec t = true) (hrow : t < P.types.size) {W W' : World} {v : Value} {d : DataW H} {ps : List MemPlace}
    (h : DataW.Trod enc P W 0 (fun _ => true) true t v d ps) (hb : Keeps W W') (hlt : ∀ x ∈ ps, x.block < W.heap.size) :
    DataW.Trod enc P W' 0 (fun b => decide (b < W.heap.size)) true t v d ps :=
  WideElems.Trod_stays hl hr hrow h (fun x hx => hb.same (hlt x hx)) (fun x hx => by simpa using hlt x hx)

theorem kept_code {fn : Func} {cd : Code} (h : (match fn.body with | some c => okCode Try.prog c | none => false) = true) (hcd : fn.body = some cd) : okCode Try.prog cd = true := by
  rw [hcd] at h
  exact h

/-- ████ A LAW'S WHOLE RUN. ████ -/
theorem law_true {W : World} {f : FuncId} {fn : Func} {cd : Code} {t : Tmp} {args : Array Value} (hp : (cutP Try.prog).funcs[f]? = some fn) (hP : Try.prog.funcs[f]? = some fn) (hb : fn.body = some cd) (hok : okCode Try.prog cd = true) (hi : Try.prog.inits.idxOf? f = none) (hres : fn.results = #[.tmp t])
    (h : WpB (duo Try.prog W) cd (bodyB (cutP Try.prog) fn fun v w' => v = .bool true ∧ Bel (veilW W) w') { tmps := args ++ Array.replicate (fn.ntmps - args.size) undef, defers := [] } (veilW W)) :
    ∃ M last o w' t', runNT Try.prog (M + 1) (solo (G (Frame.enter Try.prog f args .normal) []) W) #[] = (.ended o w', t') ∧ runN Try.prog M (solo (G (Frame.enter Try.prog f args .normal) []) W) = .next last ∧ step Try.prog last = .ended o w' ∧
      Go.Conc.Good Try.prog (fun v W' => v = .bool true ∧ Keeps W W') last o w' t' := by
  obtain ⟨M, last, o, w', t', e1, e2, e3, e4⟩ := law_runs (T := duo Try.prog W) kit rfl hp hP hb hok hi hres h
  refine ⟨M, last, o, w', t', e1, e2, e3, e4.mono fun v hv => ?_⟩
  obtain ⟨H, w1, ⟨rfl, hbel⟩, hrel⟩ := hv
  refine ⟨rfl, hrel.os.trans hbel.os, hrel.output.trans hbel.output, fun b hlt => ?_⟩
  exact hrel.back hlt (hbel.block b (by rw [veilW_size]; exact hlt))
end Go.Proofs.Ytfiaiephbemdoaa

/-
  impl.ViewCost beside others that only leave. No condition.
-/
namespace Go.Proofs.Ytfiaiephbemdoaa
set_option linter.unusedVariables false
set_option linter.unusedSimpArgs false
open Go.Conc Go.RowKit

set_option maxRecDepth 100000 in
set_option maxHeartbeats 400000 in
theorem iViewCost_b {X w : World} {v0 v1 : Value} {xs : List Int} {vs : List (List Int)} (h0 : RdV w v0 xs) (h1 : RdM w v1 vs) :
    CallsB (duo Try.prog X) 13 #[v0, v1] w (fun v w' => v = .tuple #[.int .i64 (viewCost xs vs).1, .bool (viewCost xs vs).2] ∧ Bel w w') := by
  obtain ⟨ao0, n0, ca0, rfl⟩ : ∃ ao n ca, v0 = .slice ao n ca := by obtain ⟨ao, ca, e, _⟩ := h0; exact ⟨ao, _, ca, e⟩
  refine CallsB.of_body kit (fn := Try.f13) Tryp.func13 Try.func13 rfl (by kernel_rfl) (by kernel_rfl) ?_
  simp only [Try.ntmps13, List.size_toArray, List.length_cons, List.length_nil, Nat.reduceAdd, Nat.reduceSub, Array.replicate_succ, Array.replicate_zero, List.push_toArray, List.append_toArray, List.nil_append, List.cons_append]
  refine WpB.seq kit (WpB.of_wp kit (fun τ => ?_) (outs_then (outs_body _ _ _)))
  go_wp
  refine WpB.own ?_
  by_cases ha : areV vs = true
  · obtain ⟨L, hL1, hL5, hL⟩ := areV_row ha
    have hlen := areV_len ha
    obtain ⟨vb, vo, vcap, bV, oV, cV, hv1, hV⟩ := rows_at h1 hlen.1 hL1 (fun k hk => (hL k hk).1)
    obtain ⟨hc0, _, hr0⟩ := hV 0 (by omega)
    rw [Nat.add_zero] at hc0
    have z0 : (0 : Int) < (vs.length : Int) := by omega
    have z1 : 0 < vs.length := by omega
    have HV := Lib.hid (fun τ => areViews_v v1 vs (ownTape w τ) h1)
    have HA := Lib.hid (fun τ => areAlike_v _ _ xs (vs.getD 0 []) (ownTape w τ) h0 hr0)
    have H0 := Lib.hid h0
    have H1 := Lib.hid h1
    obtain ⟨n, hn⟩ : ∃ n, n = vs.length := ⟨_, rfl⟩
    rw [← hn] at z0 z1 hv1
    have HL := Lib.hid hL
    have HN := Lib.hid hn
    have HE := Lib.hid hlen
    have HL1 := Lib.hid hL1
    have HL5 := Lib.hid hL5
    have HVV := Lib.hid hV
    rw [ha] at HV
    subst hv1
    by_cases hk : alike xs (vs.getD 0 []) = true
    · have hr : viewCost xs vs = (((costOf xs vs : Nat) : Int), true) := by simp only [viewCost, ha, hk, Bool.and_self, if_true]
      rw [hr]
      rw [hk] at HA
      have HK := Lib.hid (alike_iff.1 hk)
      clear hV hr hk ha hL hlen hL1 hL5 hn
      refine WpB.seq kit (WpB.of_wp kit (fun τ => ?_) (outs_then (outs_body _ _ _)))
      go_wp2_with fail
      refine (HV.out τ).mono ?_
      rintro e w2 ⟨rfl, rfl⟩
      go_wp2_with fail
      refine (HA.out τ).mono ?_
      rintro e w2 ⟨rfl, rfl⟩
      go_wp2
      refine WpB.own ?_
      refine WpB.seq kit (WpB.region kit ?_)
      simp only [List.size_toArray, List.length_cons, List.length_nil, Nat.reduceAdd, Nat.zero_add, List.range, List.range.loop]
      unfold OpsB
      simp only [List.getElem?_toArray, List.getElem?_cons_zero, List.getElem?_cons_succ]
      rw [if_pos (by rfl)]
      left
      intro _
      unfold Oper.wp
      go_simp
      unfold OpsB
      simp only [List.getElem?_toArray, List.getElem?_cons_zero, List.getElem?_cons_succ]
      rw [if_pos (by rfl)]
      left
      intro _
      unfold Oper.wp
      go_simp
      unfold OpsB
      simp only [List.getElem?_toArray, List.getElem?_cons_zero, List.getElem?_cons_succ]
      rw [if_pos (by rfl)]
      left
      intro _
      unfold Oper.wp
      go_simp
      unfold OpsB
      simp only [List.getElem?_toArray, List.getElem?_cons_zero, List.getElem?_cons_succ]
      rw [if_pos (by rfl)]
      right
      refine ⟨32, #[.slice (some ⟨w.heap.size, 0, none⟩) 1 1, .slice (some ⟨vb, vo, none⟩) n vcap], fun W => ⟨by kernel_rfl, by kernel_rfl⟩, ?_⟩
      have hal := Bel.alloc w (.cells #[.slice ao0 n0 ca0] 25)
      have hc := costs_v (X := X) (rdm_one H0.out 25) (hal.rdm H1.out) HL1.out (by have := HL5.out; omega) (fun k hk => by
        obtain rfl : k = 0 := by simp at hk; exact hk
        exact HK.out.2.2.trans (HL.out 0 (by have := HE.out; omega)).1) (fun k hk => (HL.out k hk).1) (Nat.le_refl 1) (by simp) HE.out.1 HE.out.2
      refine CallsB.own (hc.mono fun v w3 h => ?_)
      obtain ⟨ho, hb⟩ := h
      have hbb := hal.trans hb
      clear hc hb hal
      obtain ⟨g, cap, rfl, hcl⟩ := own_first ho
      clear ho
      unfold OpsB
      simp only [List.getElem?_toArray, List.getElem?_cons_zero, List.getElem?_cons_succ]
      rw [if_pos (by rfl)]
      left
      intro _
      unfold Oper.wp
      go_simp
      unfold OpsB
      simp only [List.getElem?_toArray, List.getElem?_cons_zero, List.getElem?_cons_succ]
      rw [if_pos (by rfl)]
      left
      intro _
      unfold Oper.wp
      go_simp
      unfold OpsB
      simp only [List.getElem?_toArray, List.getElem?_cons_zero, List.getElem?_cons_succ]
      rw [if_pos (by rfl)]
      left
      intro _
      unfold Oper.wp
      go_simp
      unfold OpsB
      simp only [List.getElem?_toArray, List.getElem?_cons_zero, List.getElem?_cons_succ]
      rw [if_pos (by rfl)]
      left
      intro _
      unfold Oper.wp
      go_simp
      unfold OpsB
      refine WpB.own (WpB.ret kit ⟨rfl, _, fun τ => results_tmp2 (t := 4) (u := 5) rfl _ _ _, rfl, hbb⟩)
    · have hk' : alike xs (vs.getD 0 []) = false := by simpa using hk
      have hr : viewCost xs vs = (0, false) := by simp only [viewCost, hk', Bool.and_false]; rfl
      rw [hr]
      rw [hk'] at HA
      clear hV hr hk ha hL hlen hL1 hL5 hn hk'
      refine WpB.seq kit (WpB.of_wp kit (fun τ => ?_) (outs_then (outs_body _ _ _)))
      go_wp2_with fail
      refine (HV.out τ).mono ?_
      rintro e w2 ⟨rfl, rfl⟩
      go_wp2_with fail
      refine (HA.out τ).mono ?_
      rintro e w2 ⟨rfl, rfl⟩
      go_wp2
      exact ⟨rfl, _, fun τ => results_tmp2 (t := 4) (u := 5) rfl _ _ _, rfl, bel_of_below (Below.refl _ _)⟩
  · have hf : areV vs = false := by simpa using ha
    have hr : viewCost xs vs = (0, false) := by simp [viewCost, hf]
    rw [hr]
    have HV := Lib.hid (fun τ => areViews_v v1 vs (ownTape w τ) h1)
    rw [hf] at HV
    refine WpB.seq kit (WpB.of_wp kit (fun τ => ?_) (outs_then (outs_body _ _ _)))
    go_wp2_with fail
    refine (HV.out τ).mono ?_
    rintro e w2 ⟨rfl, rfl⟩
    go_wp2
    exact ⟨rfl, _, fun τ => results_tmp2 (t := 4) (u := 5) rfl _ _ _, rfl, bel_of_below (Below.refl _ _)⟩
end Go.Proofs.Ytfiaiephbemdoaa

/-
  The contracts of agree, quarrel, l7Quarrel, ViewQuarrel (impl and spec).
-/
namespace Go.Proofs.Ytfiaiephbemdoaa
set_option linter.unusedSimpArgs false
set_option linter.unusedVariables false
set_option linter.unnecessarySimpa false
open Go.RowKit
set_option maxRecDepth 100000

theorem dif_sym (a b : List Int) (i k : Nat) : dif a b i k = dif a b k i := by
  unfold dif
  have e1 : decide (a.getD i 0 = a.getD k 0) = decide (a.getD k 0 = a.getD i 0) := decide_eq_decide.2 ⟨Eq.symm, Eq.symm⟩
  have e2 : decide (b.getD i 0 = b.getD k 0) = decide (b.getD k 0 = b.getD i 0) := decide_eq_decide.2 ⟨Eq.symm, Eq.symm⟩
  rw [e1, e2]

theorem agree_v (v u : Value) (xs ys : List Int) (i k : Nat) (w : World) (hv : RdV w v xs) (hu : RdV w u ys) (hl : ys.length = xs.length) (hi : i < xs.length) (hk : k < xs.length) :
    Calls (cutP Try.prog) 62 #[v, u, .int .i64 i, .int .i64 k] w (QB w (decide (dif xs ys i k = 0))) := by
  obtain ⟨bx, ox, cx, rfl, hcx, hbx, hcx1, hcx2⟩ := rdv_cells hv (by omega)
  obtain ⟨by', oy, cy, rfl, hcy, hby, hcy1, hcy2⟩ := rdv_cells hu (by omega)
  clear hv hu hcx1 hcx2 hcy1 hcy2
  have hc1 := cells_at hcx i hi
  have hc2 := cells_at hcx k hk
  have hc3 := cells_at hcy i (by omega)
  have hc4 := cells_at hcy k (by omega)
  obtain ⟨n, hn⟩ : ∃ n, n = xs.length := ⟨_, rfl⟩
  rw [hl, ← hn]
  rw [← hn] at hi hk
  have b1 : (i : Int) < n := by omega
  have b2 : (k : Int) < n := by omega
  have hr : decide (dif xs ys i k = 0) = ((xs.getD i 0 == xs.getD k 0) == (ys.getD i 0 == ys.getD k 0)) := by
    have e1 : (xs.getD i 0 == xs.getD k 0) = decide (xs.getD i 0 = xs.getD k 0) := rfl
    have e2 : (ys.getD i 0 == ys.getD k 0) = decide (ys.getD i 0 = ys.getD k 0) := rfl
    rw [e1, e2]
    unfold dif
    cases decide (xs.getD i 0 = xs.getD k 0) <;> cases decide (ys.getD i 0 = ys.getD k 0) <;> rfl
  rw [hr]
  clear hr hl hn
  obtain ⟨x, hx⟩ : ∃ x, x = xs.getD i 0 := ⟨_, rfl⟩
  obtain ⟨y, hy⟩ : ∃ y, y = xs.getD k 0 := ⟨_, rfl⟩
  obtain ⟨s, hs⟩ : ∃ s, s = ys.getD i 0 := ⟨_, rfl⟩
  obtain ⟨z, hz⟩ : ∃ z, z = ys.getD k 0 := ⟨_, rfl⟩
  rw [← hx] at hc1 ⊢
  rw [← hy] at hc2 ⊢
  rw [← hs] at hc3 ⊢
  rw [← hz] at hc4 ⊢
  clear hx hy hs hz hcx hcy
  go_enter Tryp.func62, Tryp.ntmps62
  go_wp2
  go_quiet (fail)
  go_wp2
  go_ret
  exact ⟨rfl, (Quiet.refl w).drewN _⟩

set_option maxHeartbeats 1600000 in
theorem quarrel_v (v u : Value) (xs ys : List Int) (w : World) (hv : RdV w v xs) (hu : RdV w u ys) (h1 : 1 ≤ xs.length) (h8 : xs.length ≤ 8) (hlen : ys.length = xs.length) :
    Calls (cutP Try.prog) 44 #[v, u] w (QI w (quar xs ys)) := by
  have HV := Lib.hid hv
  have HU := Lib.hid hu
  have hlv : ∃ ao ca, v = .slice ao xs.length ca := by obtain ⟨ao, ca, h, _⟩ := hv; exact ⟨ao, ca, h⟩
  obtain ⟨ao, ca, rfl⟩ := hlv
  clear hv hu
  obtain ⟨n, hn⟩ : ∃ n, n = xs.length := ⟨_, rfl⟩
  have HN := Lib.hid hn
  have HLY := Lib.hid hlen
  rw [← hn] at HV h1 h8 ⊢
  clear hn hlen
  go_enter Tryp.func44, Tryp.ntmps44
  go_wp2
  go_loopw [5, 10] (fun c i wr => ∃ (k s : Nat), k ≤ n ∧ i = .int .i64 k ∧ c = .int .i64 s ∧ Hid (s = quarTo xs ys k) ∧ Quiet w wr) (fun _ i _ => n - (intOf i).toNat)
  case atStart => exact ⟨0, 0, Nat.zero_le _, rfl, rfl, Lib.hid rfl, Quiet.refl _⟩
  case round =>
    obtain ⟨k, s, hk, rfl, rfl, HS, hq⟩ := hrel
    by_cases hlt : k < n
    · go_wp2
      go_loopw [5, 14] (fun c i wr => ∃ (j s2 : Nat), j ≤ k ∧ i = .int .i64 j ∧ c = .int .i64 s2 ∧ Hid (s2 = s + qRow xs ys k j) ∧ Quiet w wr) (fun _ i _ => k - (intOf i).toNat)
      case atStart => exact ⟨0, s, Nat.zero_le _, rfl, rfl, Lib.hid rfl, hq⟩
      case round =>
        obtain ⟨j, s2, hj, rfl, rfl, HS2, hq2⟩ := hrel
        have hs2 : s2 ≤ 1000 := by
          have e1 := HS2.out
          have e2 := HS.out
          have e3 := qRow_le xs ys k j
          have e4 := quarTo_le xs ys k
          have e5 := Nat.mul_le_mul (show k ≤ 8 by omega) (show k ≤ 8 by omega)
          omega
        by_cases hjk : j < k
        · have HC := Lib.hid (agree_v (.slice ao n ca) u xs ys j k wr (rdv_quiet HV.out hq2) (rdv_quiet HU.out hq2) HLY.out (by have := HN.out; omega) (by have := HN.out; omega))
          rw [dif_sym] at HC
          by_cases hd : dif xs ys k j = 0
          · rw [decide_eq_true hd] at HC
            have HD := Lib.hid hd
            clear hd
            go_wp2_with fail
            refine HC.out.mono ?_
            rintro e w5 ⟨rfl, hq5⟩
            have HQ := Lib.hid (hq2.trans hq5)
            clear HC hq5
            go_wp2
            go_roundw
            case rel => exact ⟨j + 1, s2, by omega, by go_num, rfl, Lib.hid (by rw [HS2.out]; show _ = s + (qRow xs ys k j + dif xs ys k j); rw [HD.out]; rfl), HQ.out⟩
            case measure => simp [intOf]; omega
          · rw [decide_eq_false hd] at HC
            have HD := Lib.hid hd
            clear hd
            go_wp2_with fail
            refine HC.out.mono ?_
            rintro e w5 ⟨rfl, hq5⟩
            have HQ := Lib.hid (hq2.trans hq5)
            clear HC hq5
            go_wp2
            go_roundw
            case rel => exact ⟨j + 1, s2 + 1, by omega, by go_num, by go_num, Lib.hid (by have e1 := dif_le xs ys k j; have e2 := HD.out; rw [HS2.out]; show _ = s + (qRow xs ys k j + dif xs ys k j); omega), HQ.out⟩
            case measure => simp [intOf]; omega
        · have hjk : j = k := by omega
          subst hjk
          go_wp2
          go_roundw
          case rel => exact ⟨j + 1, s2, by omega, by go_num, rfl, Lib.hid (by rw [HS2.out, HS.out]; rfl), hq2⟩
          case measure => simp [intOf]; omega
    · have hkn : k = n := by omega
      subst hkn
      go_wp2
      go_ret
      exact ⟨ret_int (by rw [HS.out, HN.out]; rfl), hq⟩

set_option maxHeartbeats 1600000 in
theorem l7Quarrel_v (v u : Value) (xs ys : List Int) (w : World) (hv : RdV w v xs) (hu : RdV w u ys) (h1 : 1 ≤ xs.length) (h8 : xs.length ≤ 8) (hlen : ys.length = xs.length) :
    Calls (cutP Try.prog) 59 #[v, u] w (QI w (quar xs ys)) := by
  obtain ⟨bx, ox, cx, rfl, hcx, hbx, hcx1, hcx2⟩ := rdv_cells hv h1
  obtain ⟨by', oy, cy, rfl, hcy, hby, hcy1, hcy2⟩ := rdv_cells hu (by omega)
  clear hv hu hcx1 hcx2 hcy1 hcy2
  obtain ⟨n, hn⟩ : ∃ n, n = xs.length := ⟨_, rfl⟩
  have HN := Lib.hid hn
  have HLY := Lib.hid hlen
  rw [hlen]
  rw [← hn] at h1 h8 HLY ⊢
  clear hn hlen
  go_enter Tryp.func59, Tryp.ntmps59
  go_wp2
  go_loopw [5, 6] (fun c i wr => ∃ (k s : Nat), k ≤ n ∧ i = .int .i64 k ∧ c = .int .i64 s ∧ Hid (s = quarTo xs ys k) ∧ Quiet w wr) (fun _ i _ => n - (intOf i).toNat)
  case atStart => exact ⟨0, 0, Nat.zero_le _, rfl, rfl, Lib.hid rfl, Quiet.refl _⟩
  case round =>
    obtain ⟨k, s, hk, rfl, rfl, HS, hq⟩ := hrel
    by_cases hlt : k < n
    · go_wp2
      go_loopw [5, 7] (fun c i wr => ∃ (j s2 : Nat), j ≤ k ∧ i = .int .i64 j ∧ c = .int .i64 s2 ∧ Hid (s2 = s + qRow xs ys k j) ∧ Quiet w wr) (fun _ i _ => k - (intOf i).toNat)
      case atStart => exact ⟨0, s, Nat.zero_le _, rfl, rfl, Lib.hid rfl, hq⟩
      case round =>
        obtain ⟨j, s2, hj, rfl, rfl, HS2, hq2⟩ := hrel
        have hs2 : s2 ≤ 1000 := by
          have e1 := HS2.out
          have e2 := HS.out
          have e3 := qRow_le xs ys k j
          have e4 := quarTo_le xs ys k
          have e5 := Nat.mul_le_mul (show k ≤ 8 by omega) (show k ≤ 8 by omega)
          omega
        by_cases hjk : j < k
        · have hc1 := cells_at (hq2.cells hcx) k (by have := HN.out; omega)
          have hc2 := cells_at (hq2.cells hcx) j (by have := HN.out; omega)
          have hc3 := cells_at (hq2.cells hcy) k (by have := HLY.out; omega)
          have hc4 := cells_at (hq2.cells hcy) j (by have := HLY.out; omega)
          have hd : dif xs ys k j = if decide (xs.getD k 0 = xs.getD j 0) = decide (ys.getD k 0 = ys.getD j 0) then 0 else 1 := rfl
          obtain ⟨x, hx⟩ : ∃ x, x = xs.getD k 0 := ⟨_, rfl⟩
          obtain ⟨y, hy⟩ : ∃ y, y = xs.getD j 0 := ⟨_, rfl⟩
          obtain ⟨z, hz⟩ : ∃ z, z = ys.getD k 0 := ⟨_, rfl⟩
          obtain ⟨t, ht⟩ : ∃ t, t = ys.getD j 0 := ⟨_, rfl⟩
          rw [← hx] at hc1
          rw [← hy] at hc2
          rw [← hz] at hc3
          rw [← ht] at hc4
          rw [← hx, ← hy, ← hz, ← ht] at hd
          have b1 : (k : Int) < n := by omega
          have b2 : (j : Int) < n := by omega
          have b3 : (j : Int) < k := by omega
          clear hx hy hz ht
          by_cases e : decide (x = y) = decide (z = t)
          · rw [if_pos e] at hd
            have HD := Lib.hid hd
            have hb : (((x == y) : Bool) == (z == t)) = true := by
              have e1 : (x == y) = decide (x = y) := rfl
              have e2 : (z == t) = decide (z = t) := rfl
              rw [e1, e2]
              revert e
              cases decide (x = y) <;> cases decide (z = t) <;> simp
            clear hd e
            go_wp2
            go_quiet (fail)
            go_wp2
            go_roundw
            case rel => exact ⟨j + 1, s2, by omega, by go_num, rfl, Lib.hid (by rw [HS2.out]; show _ = s + (qRow xs ys k j + dif xs ys k j); rw [HD.out]; rfl), hq2.drewN _⟩
            case measure => simp [intOf]; omega
          · rw [if_neg e] at hd
            have HD := Lib.hid hd
            have hb : (((x == y) : Bool) == (z == t)) = false := by
              have e1 : (x == y) = decide (x = y) := rfl
              have e2 : (z == t) = decide (z = t) := rfl
              rw [e1, e2]
              revert e
              cases decide (x = y) <;> cases decide (z = t) <;> simp
            clear hd e
            go_wp2
            go_quiet (fail)
            go_wp2
            go_roundw
            case rel => exact ⟨j + 1, s2 + 1, by omega, by go_num, by go_num, Lib.hid (by rw [HS2.out]; show _ = s + (qRow xs ys k j + dif xs ys k j); rw [HD.out]; rfl), hq2.drewN _⟩
            case measure => simp [intOf]; omega
        · have hjk : j = k := by omega
          subst hjk
          go_wp2
          go_roundw
          case rel => exact ⟨j + 1, s2, by omega, by go_num, rfl, Lib.hid (by rw [HS2.out, HS.out]; rfl), hq2⟩
          case measure => simp [intOf]; omega
    · have hkn : k = n := by omega
      subst hkn
      go_wp2
      go_ret
      exact ⟨ret_int (by rw [HS.out, HN.out]; rfl), hq⟩

/-- What ViewQuarrel answers. -/
def viewQuarrel (xs ys : List Int) : Int × Bool := if alike xs ys then ((quar xs ys : Int), true) else (0, false)

theorem iViewQuarrel_q (v u : Value) (xs ys : List Int) (w : World) (hv : RdV w v xs) (hu : RdV w u ys) :
    Calls (cutP Try.prog) 16 #[v, u] w (QIB w (viewQuarrel xs ys)) := by
  have HV := Lib.hid hv
  have HU := Lib.hid hu
  clear hv hu
  cases ha : alike xs ys
  · have HA := Lib.hid ha
    have hr : viewQuarrel xs ys = (0, false) := by rw [viewQuarrel, ha]; rfl
    rw [hr]
    clear ha hr
    go_enter Tryp.func16, Tryp.ntmps16
    go_wp2_with fail
    refine (areAlike_is false _ _ _ _ _ HV.out HU.out HA).mono ?_
    rintro e w' ⟨rfl, rfl⟩
    go_wp2
    go_ret2
    exact ⟨rfl, Quiet.refl _⟩
  · have HA := Lib.hid ha
    obtain ⟨h1, h8, hl⟩ := alike_lens ha
    have HL := Lib.hid hl
    have hr : viewQuarrel xs ys = ((quar xs ys : Int), true) := by rw [viewQuarrel, ha]; rfl
    rw [hr]
    clear ha hr hl
    go_enter Tryp.func16, Tryp.ntmps16
    go_wp2_with fail
    refine (areAlike_is true _ _ _ _ _ HV.out HU.out HA).mono ?_
    rintro e w' ⟨rfl, rfl⟩
    go_wp2_with fail
    refine (quarrel_v _ _ _ _ _ HV.out HU.out h1 h8 HL.out).mono ?_
    rintro e w' ⟨rfl, hq⟩
    go_wp2
    go_ret2
    exact ⟨rfl, hq⟩

theorem iViewQuarrel_v (v u : Value) (xs ys : List Int) (w : World) (hv : RdV w v xs) (hu : RdV w u ys) :
    Calls (cutP Try.prog) 16 #[v, u] w (GivesIB w (viewQuarrel xs ys)) := (iViewQuarrel_q v u xs ys w hv hu).mono fun _ _ h => h.gives
end Go.Proofs.Ytfiaiephbemdoaa

/-
  spec.l7Views: at whatever list of lists it tells whether they are views; the model's cost. No condition.
-/
namespace Go.Proofs.Ytfiaiephbemdoaa
open Go.RowKit
set_option linter.unusedVariables false
set_option linter.unusedSimpArgs false
set_option linter.unnecessarySimpa false

/-- What the model asks of a view. -/
def okS (vs : List (List Int)) (v : List Int) : Bool := partIn v && decide (v.length = (vs.getD 0 []).length) && decide (v.length ≤ 5)
theorem areV_S (vs : List (List Int)) : areV vs = (vs.all (okS vs) && decide (1 ≤ vs.length ∧ vs.length ≤ 6)) := by
  unfold areV
  by_cases h : 1 ≤ vs.length ∧ vs.length ≤ 6
  · rw [decide_eq_true h, Bool.true_and, Bool.and_true, Bool.eq_iff_iff, List.all_eq_true, List.all_eq_true]
    have h0 : vs.getD 0 [] ∈ vs := by
      have : 0 < vs.length := h.1
      simp [List.getD, this]
    constructor
    · intro a v hv
      have a1 := a v hv
      simp only [okV, Bool.and_eq_true, decide_eq_true_eq] at a1
      obtain ⟨a2, a3⟩ := a1
      obtain ⟨b1, b2, b3⟩ := alike_iff.1 a3
      simp only [okS, b2, Bool.true_and, Bool.and_eq_true, decide_eq_true_eq]
      exact ⟨b3.symm, a2⟩
    · intro a v hv
      have a1 := a v hv
      have a0 := a _ h0
      simp only [okS, Bool.and_eq_true, decide_eq_true_eq] at a1 a0
      simp only [okV, Bool.and_eq_true, decide_eq_true_eq]
      exact ⟨a1.2, alike_iff.2 ⟨a0.1.1, a1.1.1, a1.1.2.symm⟩⟩
  · rw [decide_eq_false h, Bool.false_and, Bool.and_false]

theorem cell_belowV {w w' : World} {b off : Nat} {v : Value} (h : w.cell? ⟨b, off, none⟩ = some v) (hb : Below w.heap.size w w') : w'.cell? ⟨b, off, none⟩ = some v := by
  rw [hb.cell (World.block_lt_of_cell? w _ h)]
  exact h

theorem cell_row {w : World} {v : Value} {vs : List (List Int)} (hv : RdM w v vs) {k : Nat} (hk : k < vs.length) : ∃ b off ca zo zc, v = .slice (some ⟨b, off, none⟩) vs.length ca ∧ w.cell? ⟨b, off + k, none⟩ = some (.slice zo (vs.getD k []).length zc) ∧ RdV w (.slice zo (vs.getD k []).length zc) (vs.getD k []) := by
  obtain ⟨ao, ca, rs, hvl, rfl, h1, h2, h3, h4⟩ := hv
  rcases h3 with hx | ⟨b, off, rfl, hc⟩
  · rw [hx] at hk; simp at hk
  · obtain ⟨zo, zc, e, x⟩ := h4 k hk
    exact ⟨b, off, ca, zo, zc, rfl, by rw [hc k hk, e], zo, zc, rfl, x⟩

set_option maxHeartbeats 1600000 in
theorem l7Views_v (v : Value) (vs : List (List Int)) (w : World) (hv : RdM w v vs) : Calls (cutP Try.prog) 35 #[v] w (GivesB w (areV vs)) := by
  obtain ⟨r, hr⟩ : ∃ r, r = areV vs := ⟨_, rfl⟩
  rw [← hr]
  rw [areV_S] at hr
  have HM := Lib.hid hv
  obtain ⟨ao, ca, rs, hvl, rfl, h1, h2, h3, h4⟩ := hv
  unfold maxLen at h2
  obtain ⟨n, hn⟩ : ∃ n, n = vs.length := ⟨_, rfl⟩
  rw [← hn] at h1 hr HM ⊢
  have HN := Lib.hid hn
  have HR := Lib.hid hr
  clear hr hn h3 h4 hvl
  have bel : Below w.heap.size w w := Below.refl _ _
  go_enter Tryp.func35, Tryp.ntmps35
  go_wp2
  go_loopw [3] (fun i wr => ∃ k : Nat, k ≤ n ∧ i = .int .i64 k ∧ Below w.heap.size w wr ∧ (vs.take k).all (okS vs) = true) (fun i _ => n - (intOf i).toNat)
  case atStart => exact ⟨0, Nat.zero_le _, rfl, bel, by simp⟩
  case round =>
    clear bel
    obtain ⟨k, hk, rfl, bel, hall⟩ := hrel
    have HALL := Lib.hid hall
    clear hall
    by_cases hkn : k < n
    · obtain ⟨b, off, ca', zo, zc, e1, hc0, hz⟩ := cell_row (k := 0) HM.out (by rw [← HN.out]; omega)
      obtain ⟨b', off', ca2, zo', zc', e2, hc1, hrow⟩ := cell_row HM.out (k := k) (by rw [← HN.out]; exact hkn)
      rw [← HN.out] at e1 e2
      have e3 : b' = b ∧ off' = off := by
        rw [e1] at e2
        injection e2 with e2
        injection e2 with e2
        injection e2 with e4 e5
        exact ⟨e4.symm, e5.symm⟩
      obtain ⟨rfl, rfl⟩ := e3
      have ea : ao = some ⟨b', off', none⟩ := by injection e1
      subst ea
      clear e1 e2
      have hst := all_step (okS vs) vs k (by rw [← HN.out]; exact hkn)
      have hno := all_no (okS vs) vs k (by rw [← HN.out]; exact hkn)
      replace hc0 := cell_belowV hc0 bel
      replace hc1 := cell_belowV hc1 bel
      have HRW := Lib.hid (rdv_below hrow bel)
      obtain ⟨row, hrw⟩ : ∃ row, row = vs.getD k [] := ⟨_, rfl⟩
      rw [HALL.out, Bool.true_and] at hst
      rw [← hrw] at hc1 hst hno HRW
      obtain ⟨l0, hl0⟩ : ∃ l0, l0 = (vs.getD 0 []).length := ⟨_, rfl⟩
      obtain ⟨p, hp⟩ : ∃ p, p = partIn row := ⟨_, rfl⟩
      obtain ⟨q, hq⟩ : ∃ q, q = row.length := ⟨_, rfl⟩
      have hov : okS vs row = (p && decide (q = l0) && decide (q ≤ 5)) := by rw [hp, hl0, hq]; rfl
      rw [hov] at hst hno
      have HP : Hid (∀ w', RdV w' (.slice zo' q zc') row → Calls (cutP Try.prog) 43 #[.slice zo' q zc'] w' fun e w2 => e = .returned (.bool p) ∧ w' = w2) := by
        refine Lib.hid fun w' h => ?_
        rw [hp]
        exact sPartIn_w _ _ _ h
      rw [← hl0, Nat.add_zero] at hc0
      rw [← hq] at hc1 HRW
      have HST := Lib.hid hst
      have HNO := Lib.hid hno
      have bnd : q ≤ 9223372036854775807 ∧ l0 ≤ 9223372036854775807 := by
        obtain ⟨_, _, ez, _, k1, k2⟩ := hz
        have hr := HRW.out
        obtain ⟨_, _, ez2, _, k3, k4⟩ := hr
        unfold maxLen at k2 k4
        rw [hl0, hq]
        exact ⟨by omega, by omega⟩
      clear hst hno hrow hz hrw hp hq hov hl0
      have hk0 : (0 : Int) < (n : Int) := by omega
      have hk1 : 0 < n := by omega
      have hkl : (k : Int) < (n : Int) := by omega
      cases p
      · have e : r = false := by rw [HR.out, HNO.out (by simp)]; simp
        subst e
        clear HR HST HNO
        go_wp2
        go_quiet ((go_at_call 43; exact quiet_left (HP.out _ (rdv_drewN HRW.out _))))
        go_wp2
        go_ret
        exact ⟨rfl, below_drewN bel _⟩
      · by_cases hql : q = l0
        · by_cases hq5 : q ≤ 5
          · have hst := HST.out
            rw [decide_eq_true hql, decide_eq_true hq5] at hst
            have HS2 := Lib.hid hst
            clear hst HST HNO
            subst hql
            have h5 : ¬ ((5 : Int) < (q : Int)) := by omega
            go_wp2
            go_quiet ((go_at_call 43; exact quiet_left (HP.out _ (rdv_drewN HRW.out _))))
            go_wp2
            go_roundw
            case rel => exact ⟨k + 1, by omega, by go_num, below_drewN bel _, HS2.out⟩
            case measure => simp [intOf]; omega
          · have e : r = false := by rw [HR.out, HNO.out (by simp [hq5])]; simp
            subst e
            clear HR HST HNO
            subst hql
            have h5 : (5 : Int) < (q : Int) := by omega
            go_wp2
            go_quiet ((go_at_call 43; exact quiet_left (HP.out _ (rdv_drewN HRW.out _))))
            go_wp2
            go_ret
            exact ⟨rfl, below_drewN bel _⟩
        · have e : r = false := by rw [HR.out, HNO.out (by simp [hql])]; simp
          subst e
          clear HR HST HNO
          have h5 : ¬ ((q : Int) = (l0 : Int)) := by omega
          have h6 : ((q : Int) == (l0 : Int)) = false := by simpa using h5
          have h7 : (q == l0) = false := by simpa using hql
          have h8 : decide (q = l0) = false := decide_eq_false hql
          go_wp2
          go_quiet ((go_at_call 43; exact quiet_left (HP.out _ (rdv_drewN HRW.out _))))
          go_wp2
          go_ret
          exact ⟨rfl, below_drewN bel _⟩
    · have hkn : k = n := by omega
      subst hkn
      have e : r = decide (1 ≤ k ∧ k ≤ 6) := by
        have := HALL.out
        rw [HN.out, List.take_length] at this
        rw [HR.out, this, Bool.true_and]
      have hd : decide ((1 : Int) ≤ (k : Int) ∧ (k : Int) ≤ 6) = decide (1 ≤ k ∧ k ≤ 6) := decide_eq_decide.2 (by omega)
      have HE : Hid (∀ w', Calls (cutP Try.prog) 56 #[.int .i64 k, .int .i64 1, .int .i64 6] w' fun e w2 => e = .returned (.bool r) ∧ w' = w2) := Lib.hid fun w' => (l6In_any (k : Int) 1 6 w').mono fun e2 w2 h => ⟨by rw [h.1, e, hd], h.2⟩
      clear HR HALL HM e hd
      go_wp2_with fail
      refine (HE.out _).mono ?_
      rintro e w2 ⟨rfl, rfl⟩
      go_wp2
      go_ret
      exact ⟨rfl, bel⟩
end Go.Proofs.Ytfiaiephbemdoaa

/-
  spec.l7Cost and spec.ViewCost. No condition.
-/
namespace Go.Proofs.Ytfiaiephbemdoaa
open Go.RowKit
set_option linter.unusedVariables false
set_option linter.unusedSimpArgs false
set_option linter.unnecessarySimpa false

set_option maxHeartbeats 1600000 in
theorem l7Cost_v (v u : Value) (xs : List Int) (vs : List (List Int)) (w : World) (hv : RdV w v xs) (hu : RdM w u vs) (h1 : 1 ≤ xs.length) (h8 : xs.length ≤ 8) (hl : ∀ k, k < vs.length → (vs.getD k []).length = xs.length) (h6 : vs.length ≤ 6) :
    Calls (cutP Try.prog) 37 #[v, u] w (GivesI w (costOf xs vs)) := by
  obtain ⟨C, hC⟩ : ∃ C, C = costOf xs vs := ⟨_, rfl⟩
  have hCb : C ≤ 384 := by
    have := costOf_le xs h8 vs
    rw [hC]
    omega
  rw [← hC]
  have HM := Lib.hid hu
  have HV := Lib.hid hv
  have HC := Lib.hid hC
  have HL := Lib.hid hl
  have H1 := Lib.hid h1
  have H8 := Lib.hid h8
  obtain ⟨ao, ca, rs, hvl, rfl, g1, g2, g3, g4⟩ := hu
  unfold maxLen at g2
  obtain ⟨ao0, n0, ca0, rfl⟩ : ∃ ao n ca, v = .slice ao n ca := by obtain ⟨ao, ca, e, _⟩ := hv; exact ⟨ao, _, ca, e⟩
  obtain ⟨n, hn⟩ : ∃ n, n = vs.length := ⟨_, rfl⟩
  rw [← hn] at g1 HM ⊢
  have HN := Lib.hid hn
  clear hC hn g3 g4 hvl hv hl h1 h8 h6
  have bel : Below w.heap.size w w := Below.refl _ _
  go_enter Tryp.func37, Tryp.ntmps37
  go_wp2
  go_loopw [5, 6] (fun s i wr => ∃ k c : Nat, k ≤ n ∧ i = .int .i64 k ∧ s = .int .i64 c ∧ c ≤ 384 ∧ Below w.heap.size w wr ∧ c = costOf xs (vs.take k)) (fun _ i _ => n - (intOf i).toNat)
  case atStart => exact ⟨0, 0, Nat.zero_le _, rfl, rfl, by omega, bel, by simp [costOf]⟩
  case round =>
    clear bel
    obtain ⟨k, c, hk, rfl, rfl, hcb, bel, hc⟩ := hrel
    by_cases hkn : k < n
    · obtain ⟨b, off, ca2, zo, zc, e1, hc1, hrow⟩ := cell_row HM.out (k := k) (by rw [← HN.out]; exact hkn)
      have ea : ao = some ⟨b, off, none⟩ := by injection e1
      subst ea
      clear e1
      have hst := costOf_step xs vs k (by rw [← HN.out]; exact hkn)
      have hle := costOf_take xs vs (k + 1)
      rw [← hc] at hst
      rw [← HC.out] at hle
      rw [hst] at hle
      obtain ⟨d, hd⟩ : ∃ d, d = quar xs (vs.getD k []) := ⟨_, rfl⟩
      rw [← hd] at hst hle
      replace hc1 := cell_belowV hc1 bel
      have hq := fun w' (hw : RdV w' (.slice ao0 n0 ca0) xs) (hw2 : RdV w' (.slice zo (vs.getD k []).length zc) (vs.getD k [])) => l7Quarrel_v (.slice ao0 n0 ca0) (.slice zo (vs.getD k []).length zc) xs (vs.getD k []) w' hw hw2 H1.out H8.out (HL.out k (by rw [← HN.out]; exact hkn))
      rw [← hd] at hq
      obtain ⟨row, hrw⟩ : ∃ row, row = vs.getD k [] := ⟨_, rfl⟩
      rw [← hrw] at hc1 hrow hq
      obtain ⟨q, hqq⟩ : ∃ q, q = row.length := ⟨_, rfl⟩
      rw [← hqq] at hc1 hrow hq
      have HQ := Lib.hid hq
      have HR0 := Lib.hid (rdv_below HV.out bel)
      have HR1 := Lib.hid (rdv_below hrow bel)
      have HST := Lib.hid hst
      clear hst hq hrow hc hd hrw hqq
      have hkl : (k : Int) < (n : Int) := by omega
      go_wp2_with fail
      refine (HQ.out _ HR0.out HR1.out).mono ?_
      rintro e w2 ⟨rfl, hqu⟩
      have bel2 := below_step bel hqu.below
      go_wp2
      go_roundw
      case rel => exact ⟨k + 1, c + d, by omega, by go_num, by go_num, by omega, bel2, HST.out.symm⟩
      case measure => simp [intOf]; omega
    · have hkn : k = n := by omega
      subst hkn
      have e : c = C := by rw [hc, HC.out, HN.out, List.take_length]
      clear hc HC
      subst e
      go_wp2
      go_ret
      exact ⟨rfl, bel⟩

set_option maxHeartbeats 1600000 in
theorem sViewCost_v (v u : Value) (xs : List Int) (vs : List (List Int)) (w : World) (hv : RdV w v xs) (hu : RdM w u vs) :
    Calls (cutP Try.prog) 15 #[v, u] w (GivesIB w (viewCost xs vs)) := by
  have HM := Lib.hid hu
  have HV := Lib.hid hv
  obtain ⟨ao0, n0, ca0, rfl⟩ : ∃ ao n ca, v = .slice ao n ca := by obtain ⟨ao, ca, e, _⟩ := hv; exact ⟨ao, _, ca, e⟩
  have hn0 : n0 = xs.length := by obtain ⟨_, _, e, _⟩ := hv; injection e
  have HN0 := Lib.hid hn0
  have hb0 : n0 ≤ 9223372036854775807 := by obtain ⟨_, _, _, _, k1, k2⟩ := hv; unfold maxLen at k2; omega
  clear hn0 hv
  have bel : Below w.heap.size w w := Below.refl _ _
  cases hp : partIn xs
  · have hr : viewCost xs vs = (0, false) := by simp [viewCost, alike, hp]
    rw [hr]
    have HP := Lib.hid hp
    clear hp hr hu
    go_enter Tryp.func15, Tryp.ntmps15
    go_wp2_with fail
    refine (sPartIn_is false _ _ _ HV.out HP).mono ?_
    rintro e w2 ⟨rfl, rfl⟩
    go_wp2
    go_ret2
    exact ⟨rfl, bel⟩
  cases ha : areV vs
  · have hr : viewCost xs vs = (0, false) := by simp [viewCost, ha]
    rw [hr]
    have HP := Lib.hid hp
    have HA := Lib.hid (fun w' (h : RdM w' u vs) => (by have := l7Views_v u vs w' h; rw [ha] at this; exact this : Calls (cutP Try.prog) 35 #[u] w' (GivesB w' false)))
    clear hp hr ha hu
    go_enter Tryp.func15, Tryp.ntmps15
    go_wp2_with fail
    refine (sPartIn_is true _ _ _ HV.out HP).mono ?_
    rintro e w2 ⟨rfl, rfl⟩
    go_wp2_with fail
    refine (HA.out _ HM.out).mono ?_
    rintro e w2 ⟨rfl, hb⟩
    go_wp2
    go_ret2
    exact ⟨rfl, hb⟩
  · have HP := Lib.hid hp
    have HA := Lib.hid (fun w' (h : RdM w' u vs) => (by have := l7Views_v u vs w' h; rw [ha] at this; exact this : Calls (cutP Try.prog) 35 #[u] w' (GivesB w' true)))
    have hlen := areV_len ha
    obtain ⟨b, off, ca2, zo, zc, rfl, hc1, hrow⟩ := cell_row HM.out (k := 0) (by omega)
    obtain ⟨l0, hl0⟩ : ∃ l0, l0 = (vs.getD 0 []).length := ⟨_, rfl⟩
    obtain ⟨L, hL1, hL5, hL⟩ := areV_row ha
    have hl5 : l0 ≤ 5 := by rw [hl0, (hL 0 (by omega)).1]; exact hL5
    rw [← hl0, Nat.add_zero] at hc1
    obtain ⟨n, hn⟩ : ∃ n, n = vs.length := ⟨_, rfl⟩
    have z0 : (0 : Int) < (n : Int) := by rw [hn]; omega
    have z1 : 0 < n := by omega
    have hn6 : n ≤ 6 := by omega
    rw [← hn] at HM HA ⊢
    have HN := Lib.hid hn
    by_cases hq : n0 = l0
    · have hk : alike xs (vs.getD 0 []) = true := alike_iff.2 ⟨hp, (hL 0 (by omega)).2, by rw [← HN0.out, hq, hl0]⟩
      have hr : viewCost xs vs = (((costOf xs vs : Nat) : Int), true) := by simp only [viewCost, ha, hk, Bool.and_self, if_true]
      rw [hr]
      have HC := Lib.hid (fun w' (h1 : RdV w' (.slice ao0 n0 ca0) xs) (h2 : RdM w' (.slice (some ⟨b, off, none⟩) n ca2) vs) => l7Cost_v (.slice ao0 n0 ca0) (.slice (some ⟨b, off, none⟩) n ca2) xs vs w' h1 h2 (by rw [← HN0.out, hq, hl0, (hL 0 (by omega)).1]; exact hL1) (by rw [← HN0.out, hq]; omega) (fun k hk => by rw [(hL k hk).1, ← HN0.out, hq, hl0, (hL 0 (by omega)).1]) (by omega))
      obtain ⟨c, hc⟩ : ∃ c, c = costOf xs vs := ⟨_, rfl⟩
      rw [← hc] at HC ⊢
      subst hq
      clear hp ha hu hrow hl0 hL hL1 hL5 hn hk hr hlen hc
      go_enter Tryp.func15, Tryp.ntmps15
      go_wp2_with fail
      refine (sPartIn_is true _ _ _ HV.out HP).mono ?_
      rintro e w2 ⟨rfl, rfl⟩
      go_wp2_with fail
      refine (HA.out _ HM.out).mono ?_
      rintro e w2 ⟨rfl, hb⟩
      have hc2 := cell_belowV hc1 hb
      go_wp2_with fail
      refine (HC.out _ (rdv_below HV.out hb) (rdM_below HM.out hb)).mono ?_
      rintro e w3 ⟨rfl, hb3⟩
      have hbb := below_step hb hb3
      go_wp2
      go_ret2
      exact ⟨rfl, hbb⟩
    · have hk : alike xs (vs.getD 0 []) = false := by
        rw [Bool.eq_false_iff]
        intro h
        exact hq (by rw [HN0.out, (alike_iff.1 h).2.2, hl0])
      have hr : viewCost xs vs = (0, false) := by simp only [viewCost, hk, Bool.and_false]; rfl
      rw [hr]
      have h5 : ¬ ((n0 : Int) = (l0 : Int)) := by omega
      have h6 : ((n0 : Int) == (l0 : Int)) = false := by simpa using h5
      have h7 : (n0 == l0) = false := by simpa using hq
      clear hp ha hu hrow hl0 hL hL1 hL5 hn hk hr hlen
      go_enter Tryp.func15, Tryp.ntmps15
      go_wp2_with fail
      refine (sPartIn_is true _ _ _ HV.out HP).mono ?_
      rintro e w2 ⟨rfl, rfl⟩
      go_wp2_with fail
      refine (HA.out _ HM.out).mono ?_
      rintro e w2 ⟨rfl, hb⟩
      have hc2 := cell_belowV hc1 hb
      go_wp2
      go_ret2
      exact ⟨rfl, hb⟩
end Go.Proofs.Ytfiaiephbemdoaa

/-
  The contracts of spec.l91Part, spec.l91Some, spec.DrawPartTurned: they draw some list of at most nine small numbers, in new memory.
-/
namespace Go.Proofs.Ytfiaiephbemdoaa
set_option linter.unusedSimpArgs false
set_option linter.unusedVariables false
set_option linter.unnecessarySimpa false
open Go.RowKit
set_option maxRecDepth 100000

theorem grown_own {w a b : World} {g go : Nat} (h : w.grownBy a (some g)) (hab : a.grownBy b (some go)) (hge : w.heap.size ≤ go) : w.grownBy b (some g) :=
  ⟨hab.os.trans h.os, hab.tape.trans h.tape, hab.output.trans h.output, Nat.le_trans h.size hab.size, fun k hk hne => (hab.block k (Nat.lt_of_lt_of_le hk h.size) (fun e => by cases e; omega)).trans (h.block k hk hne)⟩

theorem grown_belowD {w a b : World} {g : Nat} (h : w.grownBy a (some g)) (hab : Below a.heap.size a b) : w.grownBy b (some g) :=
  ⟨hab.os.trans h.os, hab.tape.trans h.tape, hab.output.trans h.output, Nat.le_trans h.size hab.size, fun k hk hne => (hab.block k (Nat.lt_of_lt_of_le hk h.size)).trans (h.block k hk hne)⟩

theorem rdr_grown {a b : World} {g p : Nat} {bs : Value} {r : Option Nat} (h : Rdr a g bs p) (hab : a.grownBy b r) (hne : some g ≠ r) : Rdr b g bs p := by
  unfold Rdr at *
  rw [hab.block g (Array.getElem?_eq_some_iff.1 h).1 hne]
  exact h

theorem rdr_below {a b : World} {g p : Nat} {bs : Value} (h : Rdr a g bs p) (hab : Below a.heap.size a b) : Rdr b g bs p := by
  unfold Rdr at *
  rw [hab.block g (Array.getElem?_eq_some_iff.1 h).1]
  exact h

theorem bytes_grown {w w' : World} {a : Option Addr} {len g : Nat} (h : Bytes w a len) (hg : w.grownBy w' (some g)) (hne : 0 < len → ∀ x, a = some x → x.block ≠ g) : Bytes w' a len := by
  rcases h with h | ⟨b, off, ha, hc⟩
  · exact .inl h
  · refine .inr ⟨b, off, ha, fun j hj => ?_⟩
    obtain ⟨x, hx, hcx⟩ := hc j hj
    exact ⟨x, hx, hg.cell hcx (fun e => hne (by omega) _ ha (by cases e; rfl))⟩

/-- What is drawn: a list of at most m numbers from 0 to 9, in new memory; the reader goes on. -/
def Drawn (w : World) (g : Nat) (bs : Value) (p m : Nat) (e : Ending) (w' : World) : Prop :=
  ∃ v xs q, e = .returned v ∧ Own w' w.heap.size v xs ∧ (1 ≤ xs.length ∧ xs.length ≤ m) ∧ (∀ x ∈ xs, 0 ≤ x ∧ x ≤ 9) ∧ Rdr w' g bs q ∧ q ≤ p + 40 ∧ w.grownBy w' (some g)

theorem small_snoc {xs : List Int} {v : Int} (h : Small xs) (h0 : 0 ≤ v) (h1 : v ≤ 7) : Small (xs ++ [v]) := by
  intro j hj
  by_cases e : j < xs.length
  · rw [getD_snoc_lt _ _ _ e]; exact h j e
  · have : j = xs.length := by simp at hj; omega
    rw [this, getD_snoc_eq]; exact ⟨h0, h1⟩

theorem small_mem {xs : List Int} (h : Small xs) : ∀ x ∈ xs, 0 ≤ x ∧ x ≤ 9 := by
  intro x hx
  obtain ⟨j, hj, e⟩ := mem_iff_getD.1 hx
  have := h j hj
  omega

theorem pick_z (g : Nat) (a : Option Addr) (len cap p : Nat) (m : Int) (w : World) (hr : Rdr w g (.slice a len cap) p) (hby : Bytes w a len) (hne : 0 < len → ∀ x, a = some x → x.block ≠ g) (hlen : len ≤ 2000) (hp : p ≤ 1000000) (hn : 1 ≤ m) (hn2 : m ≤ 100000) :
    Calls (cutP Try.prog) 42 #[.pointer (some ⟨g, 0, none⟩), .int .i64 m] w (Picked w g (.slice a len cap) p m.toNat) := by
  have := pick_any g a len cap p m.toNat w hr hby hne hlen hp (by omega) (by omega)
  rwa [Int.toNat_of_nonneg (by omega)] at this

/-- The same, and at least so many numbers as asked. -/
def DrawnN (w : World) (g : Nat) (bs : Value) (p n m : Nat) (e : Ending) (w' : World) : Prop :=
  ∃ v xs q, e = .returned v ∧ Own w' w.heap.size v xs ∧ (n ≤ xs.length ∧ xs.length ≤ m) ∧ (∀ x ∈ xs, 0 ≤ x ∧ x ≤ 9) ∧ Rdr w' g bs q ∧ q ≤ p + 40 ∧ w.grownBy w' (some g)

set_option maxHeartbeats 1000000 in
theorem l91Part_n (g : Nat) (a : Option Addr) (len cap p n : Nat) (w : World) (hr : Rdr w g (.slice a len cap) p) (hby : Bytes w a len) (hne : 0 < len → ∀ x, a = some x → x.block ≠ g) (hlen : len ≤ 2000) (hp : p ≤ 1000) (hn : 1 ≤ n) (hn2 : n ≤ 8) :
    Calls (cutP Try.prog) 41 #[.pointer (some ⟨g, 0, none⟩), .int .i64 n] w (DrawnN w g (.slice a len cap) p n (n + 1)) := by
  have hg := (rdr_facts hr).1
  have HR := Lib.hid hr
  have HB := Lib.hid hby
  clear hr hby
  obtain ⟨w0, hw0⟩ : ∃ w0 : World, w0 = w.alloc (.cells #[] 3) := ⟨_, rfl⟩
  have hb0 : Below w.heap.size w w0 := by rw [hw0]; exact (Below.refl _ _).alloc (Nat.le_refl _) _
  have ho0 : Own w0 w.heap.size (.slice (some ⟨w.heap.size, 0, none⟩) 0 0) [] := by rw [hw0]; exact own_empty w _ (Nat.le_refl _)
  go_enter Tryp.func41, Tryp.ntmps41
  go_wp2_with fail
  rw [← hw0]
  refine (pick_any g a len cap p 3 _ (rdr_below HR.out hb0) (bytes_below HB.out hb0) hne hlen (by omega) (by omega) (by omega)).mono ?_
  rintro e w1 ⟨kd, rfl, hk3, hr1, hg1, hz1⟩
  have hG1 : w.grownBy w1 (some g) := grown_trans (⟨hb0.os, hb0.tape, hb0.output, hb0.size, fun k hk _ => hb0.block k hk⟩) hg1
  have ho1 : Own w1 w.heap.size (.slice (some ⟨w.heap.size, 0, none⟩) 0 0) [] := own_grown ho0 hg1 (.inr (by simp [Value.ownBlock]; omega))
  clear hg1 hz1 ho0 hb0 hw0
  have HR1 := Lib.hid hr1
  have HG1 := Lib.hid hG1
  have HO1 := Lib.hid ho1
  clear hr1 hG1 ho1
  go_wp2
  go_loopw [5, 7] (fun u i wr => ∃ (k g' cap' q : Nat) (xs : List Int), k ≤ n ∧ i = .int .i64 k ∧ u = .slice (some ⟨g', 0, none⟩) k cap' ∧ Own wr w.heap.size (.slice (some ⟨g', 0, none⟩) k cap') xs ∧ xs.length = k ∧ Small xs ∧ pSize xs ≤ k ∧ Rdr wr g (.slice a len cap) q ∧ q ≤ p + 1 + 2 * k ∧ w.grownBy wr (some g)) (fun _ i _ => n - (intOf i).toNat)
  case atStart => exact ⟨0, w.heap.size, 0, p + 1, [], Nat.zero_le _, rfl, rfl, HO1.out, rfl, fun j hj => by simp at hj, by decide, HR1.out, by omega, HG1.out⟩
  case round =>
    obtain ⟨k, g', cap', q, xs, hk, rfl, rfl, hown, hxl, hsm, hps, hrd, hq, hgr⟩ := hrel
    have hsz := hgr.size
    have hge : w.heap.size ≤ g' := (own_lt hown g' rfl).1
    have HO := Lib.hid hown
    have HXL := Lib.hid hxl
    have HSM := Lib.hid hsm
    have HRD := Lib.hid hrd
    have HGR := Lib.hid hgr
    obtain ⟨s, hs⟩ : ∃ s : Nat, pSize xs = s := ⟨(pSize xs).toNat, by have := (pSize_bd hsm).1; omega⟩
    rw [hs] at hps
    have HPS := Lib.hid hs
    clear hown hxl hsm hrd hgr hs
    by_cases hlt : k < n
    · go_wp2_with fail
      refine (l1Size_v _ xs _ (own_rdv HO.out) HSM.out).mono ?_
      rintro e w' ⟨rfl, rfl⟩
      rw [HPS.out]
      go_wp2_with fail
      refine (pick_z g a len cap q _ _ HRD.out (bytes_grown HB.out HGR.out hne) hne hlen (by omega) (by omega) (by omega)).mono ?_
      rintro e w2 ⟨t, rfl, ht, hr2, hg2, hz2⟩
      have HR2 := Lib.hid hr2
      have HG2 := Lib.hid (grown_trans HGR.out hg2)
      have HO2 := Lib.hid (own_grown HO.out hg2 (.inr (by simp [Value.ownBlock]; omega)))
      have hsz2 : w.heap.size ≤ w2.heap.size := by omega
      clear hr2 hg2 hz2
      by_cases hkd : kd = 1
      · have hkd1 : ((kd : Int) == 1) = true := by simp; omega
        clear hkd
        go_wp2_with fail
        refine (pick_z g a len cap (q + 1) _ _ HR2.out (bytes_grown HB.out HG2.out hne) hne hlen (by omega) (by omega) (by omega)).mono ?_
        rintro e w3 ⟨t2, rfl, ht2, hr3, hg3, hz3⟩
        have HR3 := Lib.hid hr3
        have HG3 := Lib.hid (grown_trans HG2.out hg3)
        have HO3 := Lib.hid (own_grown HO2.out hg3 (.inr (by simp [Value.ownBlock]; omega)))
        clear hr3 hg3
        have hzz : w.heap.size ≤ w3.heap.size := by omega
        clear hz3
        obtain ⟨q3, hq3⟩ : ∃ q3, q3 = q + 1 + 1 := ⟨_, rfl⟩
        rw [← hq3] at HR3
        by_cases hst : (t2 : Int) < s
        · have hmin : min (s : Int) t2 = t2 := by omega
          go_wp2_with (at_builtin; refine wpList_push rfl _ _ rfl w.heap.size g' k cap' xs rfl (own_alloc HO3.out _) HXL.out.symm ⟨w3.heap.size, 0, none⟩ rfl t2 (cell_new1 _ _ _) (by omega) (by simp; omega) ?_)
          intro g2 cap2 w4 hown4 hgr4 hg4
          have hG4 : w.grownBy w4 (some g) := grown_own (grown_belowD HG3.out ((Below.refl _ _).alloc (Nat.le_refl _) _)) hgr4 hge
          have hR4 := rdr_grown (rdr_below HR3.out ((Below.refl _ _).alloc (Nat.le_refl _) _)) hgr4 (fun e => by cases e; omega)
          have HO4 := Lib.hid hown4
          have HG4 := Lib.hid hG4
          have HR4 := Lib.hid hR4
          clear hown4 hgr4 hg4 hG4 hR4
          go_wp2
          go_roundw
          case rel =>
            refine ⟨k + 1, g2, cap2, q3, xs ++ [(t2 : Int)], by omega, by go_num, rfl, HO4.out, by simp [HXL.out], small_snoc HSM.out (by omega) (by omega), ?_, HR4.out, by omega, HG4.out⟩
            have := HPS.out
            unfold pSize at this ⊢
            rw [sizeFrom_append, this]
            omega
          case measure => simp [intOf]; omega
        · have hmin : min (s : Int) t2 = s := by omega
          go_wp2_with (at_builtin; refine wpList_push rfl _ _ rfl w.heap.size g' k cap' xs rfl (own_alloc HO3.out _) HXL.out.symm ⟨w3.heap.size, 0, none⟩ rfl s (cell_new1 _ _ _) (by omega) (by simp; omega) ?_)
          intro g2 cap2 w4 hown4 hgr4 hg4
          have hG4 : w.grownBy w4 (some g) := grown_own (grown_belowD HG3.out ((Below.refl _ _).alloc (Nat.le_refl _) _)) hgr4 hge
          have hR4 := rdr_grown (rdr_below HR3.out ((Below.refl _ _).alloc (Nat.le_refl _) _)) hgr4 (fun e => by cases e; omega)
          have HO4 := Lib.hid hown4
          have HG4 := Lib.hid hG4
          have HR4 := Lib.hid hR4
          clear hown4 hgr4 hg4 hG4 hR4
          go_wp2
          go_roundw
          case rel =>
            refine ⟨k + 1, g2, cap2, q3, xs ++ [(s : Int)], by omega, by go_num, rfl, HO4.out, by simp [HXL.out], small_snoc HSM.out (by omega) (by omega), ?_, HR4.out, by omega, HG4.out⟩
            have := HPS.out
            unfold pSize at this ⊢
            rw [sizeFrom_append, this]
            omega
          case measure => simp [intOf]; omega
      · obtain ⟨w3, hw3⟩ : ∃ w3 : World, w3 = w2 := ⟨_, rfl⟩
        rw [← hw3] at HR2 HG2 HO2 hsz2 ⊢
        have HR3 := HR2
        have HG3 := HG2
        have HO3 := HO2
        have hzz : w.heap.size ≤ w3.heap.size := by omega
        clear hw3 HR2 HG2 HO2
        have hkd' : ((kd : Int) == 1) = false := by simp; omega
        have ht0 : (0 : Int) ≤ (t : Int) := by omega
        obtain ⟨q3, hq3⟩ : ∃ q3, q3 = q + 1 := ⟨_, rfl⟩
        rw [← hq3] at HR3
        go_wp2_with (at_builtin; refine wpList_push rfl _ _ rfl w.heap.size g' k cap' xs rfl (own_alloc HO3.out _) HXL.out.symm ⟨w3.heap.size, 0, none⟩ rfl t (cell_new1 _ _ _) (by omega) (by simp; omega) ?_)
        intro g2 cap2 w4 hown4 hgr4 hg4
        have hG4 : w.grownBy w4 (some g) := grown_own (grown_belowD HG3.out ((Below.refl _ _).alloc (Nat.le_refl _) _)) hgr4 hge
        have hR4 := rdr_grown (rdr_below HR3.out ((Below.refl _ _).alloc (Nat.le_refl _) _)) hgr4 (fun e => by cases e; omega)
        have HO4 := Lib.hid hown4
        have HG4 := Lib.hid hG4
        have HR4 := Lib.hid hR4
        clear hown4 hgr4 hg4 hG4 hR4
        go_wp2
        go_roundw
        case rel =>
          refine ⟨k + 1, g2, cap2, q3, xs ++ [(t : Int)], by omega, by go_num, rfl, HO4.out, by simp [HXL.out], small_snoc HSM.out ht0 (by omega), ?_, HR4.out, by omega, HG4.out⟩
          have := HPS.out
          unfold pSize at this ⊢
          rw [sizeFrom_append, this]
          omega
        case measure => simp [intOf]; omega
    · have hkn : k = n := by omega
      subst hkn
      have hB := bytes_grown HB.out HGR.out hne
      go_wp2_with fail
      refine (pick_z g a len cap q _ _ HRD.out hB hne hlen (by omega) (by omega) (by omega)).mono ?_
      rintro e w2 ⟨t, rfl, ht, hr2, hg2, hz2⟩
      have HR2 := Lib.hid hr2
      have HG2 := Lib.hid (grown_trans HGR.out hg2)
      have HO2 := Lib.hid (own_grown HO.out hg2 (.inr (by simp [Value.ownBlock]; omega)))
      have hsz2 : w.heap.size ≤ w2.heap.size := by omega
      clear hr2 hg2 hz2
      by_cases h40 : t = 0
      · subst h40
        go_wp2_with (at_builtin; refine wpList_push rfl _ _ rfl w.heap.size g' k cap' xs rfl (own_alloc HO2.out _) HXL.out.symm ⟨w2.heap.size, 0, none⟩ rfl 9 (cell_new1 _ _ _) (by omega) (by simp; omega) ?_)
        intro g2 cap2 w4 hown4 hgr4 hg4
        have hG4 : w.grownBy w4 (some g) := grown_own (grown_belowD HG2.out ((Below.refl _ _).alloc (Nat.le_refl _) _)) hgr4 hge
        have hR4 := rdr_grown (rdr_below HR2.out ((Below.refl _ _).alloc (Nat.le_refl _) _)) hgr4 (fun e => by cases e; omega)
        have HO4 := Lib.hid hown4
        have HG4 := Lib.hid hG4
        have HR4 := Lib.hid hR4
        clear hown4 hgr4 hg4 hG4 hR4
        go_wp2
        go_ret
        refine ⟨_, xs ++ [9], q + 1, rfl, HO4.out, ⟨by simp [HXL.out] <;> omega, by simp [HXL.out] <;> omega⟩, ?_, HR4.out, by omega, HG4.out⟩
        intro y hy
        rcases List.mem_append.1 hy with h | h
        · exact small_mem HSM.out y h
        · rw [List.mem_singleton.1 h]; omega
      · have ht1 : ((t : Int) == 0) = false := by simp; omega
        go_wp2
        go_ret
        exact ⟨_, xs, q + 1, rfl, HO2.out, by have := HXL.out; omega, small_mem HSM.out, HR2.out, by omega, HG2.out⟩

theorem l91Part_any (g : Nat) (a : Option Addr) (len cap p n : Nat) (w : World) (hr : Rdr w g (.slice a len cap) p) (hby : Bytes w a len) (hne : 0 < len → ∀ x, a = some x → x.block ≠ g) (hlen : len ≤ 2000) (hp : p ≤ 1000) (hn : 1 ≤ n) (hn2 : n ≤ 8) :
    Calls (cutP Try.prog) 41 #[.pointer (some ⟨g, 0, none⟩), .int .i64 n] w (Drawn w g (.slice a len cap) p 9) :=
  (l91Part_n g a len cap p n w hr hby hne hlen hp hn hn2).mono fun e w1 ⟨v, xs, q, h1, h2, h3, h4⟩ => ⟨v, xs, q, h1, h2, by omega, h4⟩

theorem l91Part_z (g : Nat) (a : Option Addr) (len cap p : Nat) (m : Int) (w : World) (hr : Rdr w g (.slice a len cap) p) (hby : Bytes w a len) (hne : 0 < len → ∀ x, a = some x → x.block ≠ g) (hlen : len ≤ 2000) (hp : p ≤ 1000) (hn : 1 ≤ m) (hn2 : m ≤ 8) :
    Calls (cutP Try.prog) 41 #[.pointer (some ⟨g, 0, none⟩), .int .i64 m] w (Drawn w g (.slice a len cap) p 9) := by
  have := l91Part_any g a len cap p m.toNat w hr hby hne hlen hp (by omega) (by omega)
  rwa [Int.toNat_of_nonneg (by omega)] at this

theorem bytes_of_row {w : World} {a : Option Addr} {len cap : Nat} {zs : List Int} (h : IsRow .u8 w a len cap zs) : Bytes w a len ∧ len ≤ cap ∧ cap ≤ maxLen := by
  rcases h with ⟨rfl, rfl, rfl, rfl⟩ | ⟨x, rfl, hl, hm, hz, hc, hw⟩
  · exact ⟨.inl rfl, Nat.le_refl _, Nat.zero_le _⟩
  · refine ⟨?_, hl, hm⟩
    by_cases h0 : len = 0
    · exact .inl h0
    · obtain ⟨b, off, spot⟩ := x
      have hc0 := hc 0 (by omega)
      have hspot : spot = none := by simpa [Addr.add] using World.cell?_spot hc0
      subst hspot
      refine .inr ⟨b, off, rfl, fun j hj => ?_⟩
      have hcj := hc j (by omega)
      rw [Addr.add_lit] at hcj
      have hmem : zs.getD j 0 ∈ zs := mem_of_getD (by omega) rfl
      have hwf := hw _ hmem
      have hb : 0 ≤ zs.getD j 0 ∧ zs.getD j 0 ≤ 255 := by
        simpa [Lit.wf, IntKind.min, IntKind.max, IntKind.bits, IntKind.signed] using hwf
      refine ⟨(zs.getD j 0).toNat, by omega, ?_⟩
      rw [hcj, Int.toNat_of_nonneg hb.1]

end Go.Proofs.Ytfiaiephbemdoaa

/-
  The contracts of FinerMeet (impl and spec).
-/
namespace Go.Proofs.Ytfiaiephbemdoaa
set_option linter.unusedSimpArgs false
set_option linter.unusedVariables false
set_option linter.unnecessarySimpa false
open Go.RowKit
set_option maxRecDepth 100000

def mix (c : Int) (xs ys : List Int) : List Int := (List.range xs.length).map fun i => c * xs.getD i 0 + ys.getD i 0

theorem mix_length (c : Int) (xs ys : List Int) : (mix c xs ys).length = xs.length := by simp [mix]
theorem mix_getD (c : Int) (xs ys : List Int) (i : Nat) (h : i < xs.length) : (mix c xs ys).getD i 0 = c * xs.getD i 0 + ys.getD i 0 := by
  simp [mix, List.getD, h]

theorem mix_pat (xs ys : List Int) (hx : Small xs) (hy : Small ys) (hl : ys.length = xs.length) : kOut (mix 10 xs ys) = kOut (mix 8 xs ys) := by
  refine (kOut_pat (mix 8 xs ys) (mix 10 xs ys) (by simp [mix_length]) fun i j hi hj => ?_).1
  rw [mix_length] at hi hj
  rw [mix_getD _ _ _ _ hi, mix_getD _ _ _ _ hj, mix_getD _ _ _ _ hi, mix_getD _ _ _ _ hj]
  have h1 := hx i hi
  have h2 := hx j hj
  have h3 := hy i (by omega)
  have h4 := hy j (by omega)
  omega

def finerMeet (xs ys : List Int) : List Int × Bool := if alike xs ys then (kOut (mix 8 xs ys), true) else ([], false)

theorem finerMeet_len (xs ys : List Int) (h : xs.length ≤ 1048576) (_ : ys.length ≤ 1048576) : (finerMeet xs ys).1.length ≤ 2305843009213693952 := by
  unfold finerMeet
  split
  · rw [kOut_length, mix_length]; omega
  · simp

set_option maxHeartbeats 1600000 in
theorem sFinerMeet_v (v u : Value) (xs ys : List Int) (w : World) (hv : RdV w v xs) (hu : RdV w u ys) :
    Calls (cutP Try.prog) 47 #[v, u] w (FreshLB w (finerMeet xs ys)) := by
  have HV := Lib.hid hv
  have HU := Lib.hid hu
  cases ha : alike xs ys
  · have HA := Lib.hid ha
    have hr : finerMeet xs ys = ([], false) := by simp [finerMeet, ha]
    rw [hr]
    clear ha hr hv hu
    go_enter Tryp.func47, Tryp.ntmps47
    go_wp2_with fail
    refine (l2Two_is false _ _ _ _ _ HV.out HU.out HA).mono ?_
    rintro e w' ⟨rfl, rfl⟩
    go_wp2
    go_ret2
    exact ⟨_, rfl, own_empty _ _ (Nat.le_refl _), (Below.refl _ _).alloc (Nat.le_refl _) _⟩
  · have HA := Lib.hid ha
    obtain ⟨h1, h8, hl⟩ := alike_lens ha
    obtain ⟨hpx, hpy, _⟩ := alike_iff.1 ha
    have HSX := Lib.hid (partIn_small hpx)
    have HSY := Lib.hid (partIn_small hpy)
    have hr : finerMeet xs ys = (kOut (mix 10 xs ys), true) := by simp [finerMeet, ha, mix_pat xs ys HSX.out HSY.out hl]
    rw [hr]
    obtain ⟨bx, ox, cx, rfl, hcx, hbx, hcx1, hcx2⟩ := rdv_cells hv h1
    obtain ⟨by', oy, cy, rfl, hcy, hby, hcy1, hcy2⟩ := rdv_cells hu (by omega)
    obtain ⟨n, hn⟩ : ∃ n, n = xs.length := ⟨_, rfl⟩
    have HN := Lib.hid hn
    have HLY := Lib.hid hl
    rw [hl] at HU ⊢
    rw [← hn] at HV HU h1 h8 HLY ⊢
    clear ha hr hv hu hn hl hpx hpy hcx1 hcx2 hcy1 hcy2
    go_enter Tryp.func47, Tryp.ntmps47
    go_wp2_with fail
    refine (l2Two_is true _ _ _ _ _ HV.out HU.out HA).mono ?_
    rintro e w' ⟨rfl, rfl⟩
    go_wp2
    go_loopw [6, 7] (fun u i wr => ∃ k g cap : Nat, k ≤ n ∧ i = .int .i64 k ∧ u = .slice (some ⟨g, 0, none⟩) k cap ∧ Own wr w.heap.size (.slice (some ⟨g, 0, none⟩) k cap) ((mix 10 xs ys).take k) ∧ Below w.heap.size w wr) (fun _ i _ => n - (intOf i).toNat)
    case atStart => exact ⟨0, w.heap.size, 0, Nat.zero_le _, rfl, rfl, own_empty w _ (Nat.le_refl _), (Below.refl _ _).alloc (Nat.le_refl _) _⟩
    case round =>
      obtain ⟨k, g, cap, hk, rfl, rfl, hown, hbel⟩ := hrel
      by_cases hlt : k < n
      · have hc1 := cells_at (cells_below hcx hbel) k (by have := HN.out; omega)
        have hc2 := cells_at (cells_below hcy hbel) k (by have := HLY.out; omega)
        have hmg := mix_getD 10 xs ys k (by rw [← HN.out]; exact hlt)
        have hts := take_snoc (mix 10 xs ys) k (by rw [mix_length, ← HN.out]; exact hlt)
        obtain ⟨hx0, hx7⟩ := HSX.out k (by rw [← HN.out]; exact hlt)
        obtain ⟨hy0, hy7⟩ := HSY.out k (by rw [HLY.out]; exact hlt)
        obtain ⟨x, hx⟩ : ∃ x, x = xs.getD k 0 := ⟨_, rfl⟩
        obtain ⟨y, hy⟩ : ∃ y, y = ys.getD k 0 := ⟨_, rfl⟩
        rw [← hx] at hc1 hx0 hx7 hmg
        rw [← hy] at hc2 hy0 hy7 hmg
        rw [hmg] at hts
        have HTS := Lib.hid hts
        have b1 : (k : Int) < n := by omega
        have b2 : IntKind.i64.wrap (10 * x) = 10 * x := IntWalk.i64_in _ (by omega)
        have b3 : IntKind.i64.wrap (10 * x + y) = 10 * x + y := IntWalk.i64_in _ (by omega)
        have HO := Lib.hid hown
        clear hmg hts hx hy hown
        go_wp2
        go_region_held3 (fun w' => w'.cell? ⟨bx, ox + k, none⟩ = some (.int .i64 x) ∧ w'.cell? ⟨by', oy + k, none⟩ = some (.int .i64 y)) (first | exact ⟨hc1, hc2⟩ | exact ⟨cell_keep _ hc1, cell_keep _ hc2⟩ | exact ⟨cell_keepd _ hc1, cell_keepd _ hc2⟩ | exact ⟨hw1, hw2⟩) (first | (refine step_cat rfl _ _ (by rfl) w.heap.size g k cap ((mix 10 xs ys).take k) (by rfl) (own_drew1 (own_alloc HO.out _)) (by rw [List.length_take, mix_length, ← HN.out]; omega) ⟨wr.heap.size, 0, none⟩ 1 1 (by rfl) [10 * x + y] rfl (cells_one (cell_new1 _ _ _)) (by omega) (by have := hbel.size; simp; omega) (k + 1) rfl ?_; intro g' cap' w2 hown2 hgr2 hg2; have HO2 := Lib.hid hown2; have hw1 := hgr2.cell (cell_keepd _ hc1) (by simp; have := (own_lt HO.out g rfl).1; omega); have hw2 := hgr2.cell (cell_keepd _ hc2) (by simp; have := (own_lt HO.out g rfl).1; omega); have hbel2 : Below w.heap.size w w2 := (hbel.alloc hbel.size _).drew.grown hgr2 (by have := hbel.size; simp; omega) (fun q hq => by cases hq; exact (own_lt HO.out g rfl).1); clear hown2 hgr2 hg2))
        go_wp2
        go_roundw
        case rel => exact ⟨k + 1, g', cap', by omega, by go_num, rfl, by rw [HTS.out]; exact HO2.out, hbel2⟩
        case measure => simp [intOf]; omega
      · have hkn : k = n := by omega
        subst hkn
        rw [List.take_of_length_le (by rw [mix_length, ← HN.out]; omega)] at hown
        have HO := Lib.hid (own_rdv hown)
        clear hown
        go_wp2_with fail
        refine (l1Kernel_v _ _ _ HO.out (by rw [mix_length, ← HN.out]; omega)).mono ?_
        rintro e w2 ⟨u, rfl, ho, hb⟩
        go_wp2
        go_ret2
        exact ⟨_, rfl, own_mono ho hbel.size, below_step hbel hb⟩

end Go.Proofs.Ytfiaiephbemdoaa

