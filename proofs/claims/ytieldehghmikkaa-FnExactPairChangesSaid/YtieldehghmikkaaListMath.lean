/-
  Plain mathematics of chapter 4: how many lists go on (opn), the place of a list (plcFrom), the list at a place (atFrom), the next one and the one ahead.
-/
import Derived.Test.YtieldehghmikkaaSize
import Derived.Test.YtieldehghmikkaaPartOk
namespace Go.Proofs.Ytieldehghmikkaa
set_option linter.unusedSimpArgs false
set_option linter.unusedVariables false
set_option linter.unnecessarySimpa false

/-- How many lists of n more numbers follow one with k blocks. -/
def opn : Nat → Int → Int
  | 0, _ => 1
  | n + 1, k => k * opn n k + opn n (k + 1)

def opnN : Nat → Nat → Nat
  | 0, _ => 1
  | n + 1, k => k * opnN n k + opnN n (k + 1)

theorem opn_nat : ∀ (n k : Nat), opn n (k : Int) = (opnN n k : Int) := by
  intro n
  induction n with
  | zero => intro k; rfl
  | succ n ih =>
    intro k
    have h2 := ih (k + 1)
    have e : ((k + 1 : Nat) : Int) = (k : Int) + 1 := by omega
    rw [e] at h2
    show (k : Int) * opn n (k : Int) + opn n ((k : Int) + 1) = _
    rw [ih k, h2]
    show _ = ((k * opnN n k + opnN n (k + 1) : Nat) : Int)
    simp

theorem opnN_bd : ∀ n, n < 9 → ∀ k, k < 9 → n + k ≤ 8 → 1 ≤ opnN n k ∧ opnN n k ≤ 4140 := by decide +kernel

theorem opn_pos : ∀ (n : Nat) (k : Int), 0 ≤ k → 1 ≤ opn n k := by
  intro n
  induction n with
  | zero => intro k _; exact Int.le_refl _
  | succ n ih =>
    intro k hk
    have h1 := ih k hk
    have h2 := ih (k + 1) (by omega)
    have h3 : 0 ≤ k * opn n k := Int.mul_nonneg hk (by omega)
    show 1 ≤ k * opn n k + opn n (k + 1)
    omega

theorem opn_bd (n : Nat) (k : Int) (hk : 0 ≤ k) (h : (n : Int) + k ≤ 8) : 1 ≤ opn n k ∧ opn n k ≤ 4140 := by
  obtain ⟨j, rfl⟩ : ∃ j : Nat, k = j := ⟨k.toNat, by omega⟩
  have := opnN_bd n (by omega) j (by omega) (by omega)
  rw [opn_nat]
  omega

theorem opn_mul_bd (n : Nat) (k x : Int) (hk : 0 ≤ k) (h : (n : Int) + k ≤ 8) (hx : 0 ≤ x) (hx8 : x ≤ 8) : 0 ≤ x * opn n k ∧ x * opn n k ≤ 33120 := by
  have h1 := opn_bd n k hk h
  refine ⟨Int.mul_nonneg hx (by omega), ?_⟩
  have h2 : x * opn n k ≤ 8 * opn n k := Int.mul_le_mul_of_nonneg_right hx8 (by omega)
  omega

theorem max_small {b x : Int} (h : x < b) : max b (x + 1) = b := by omega
theorem max_new (b : Int) : max b (b + 1) = b + 1 := by omega

/-- A list at whose head a number that may stand there stands. -/
theorem okFrom_step {b x : Int} (xs : List Int) (h0 : 0 ≤ x) (h : x ≤ b) : okFrom b (x :: xs) = okFrom (max b (x + 1)) xs := by
  by_cases e : x = b
  · subst e; rw [okFrom_new h0, max_new]
  · rw [okFrom_yes h0 (by omega), max_small (by omega)]

theorem okFrom_head {b x : Int} {xs : List Int} (h : okFrom b (x :: xs) = true) : 0 ≤ x ∧ x ≤ b ∧ okFrom (max b (x + 1)) xs = true := by
  by_cases h1 : 0 ≤ x ∧ x ≤ b
  · exact ⟨h1.1, h1.2, by rw [okFrom_step xs h1.1 h1.2] at h; exact h⟩
  · rw [okFrom_no (by omega)] at h
    cases h

/-- The number of lists ahead of one, from the place on where there are b blocks. -/
def plcFrom : Int → List Int → Int
  | _, [] => 0
  | b, x :: xs => x * opn xs.length b + plcFrom (max b (x + 1)) xs

theorem plcFrom_bd : ∀ (xs : List Int) (b : Int), 0 ≤ b → okFrom b xs = true → 0 ≤ plcFrom b xs ∧ plcFrom b xs < opn xs.length b := by
  intro xs
  induction xs with
  | nil => intro b _ _; exact ⟨Int.le_refl _, by show (0 : Int) < 1; omega⟩
  | cons x xs ih =>
    intro b hb h
    obtain ⟨h0, h1, h2⟩ := okFrom_head h
    have hp := ih (max b (x + 1)) (by omega) h2
    have ho := opn_pos xs.length b hb
    have hx : 0 ≤ x * opn xs.length b := Int.mul_nonneg h0 (by omega)
    have ho2 := opn_pos xs.length (b + 1) (by omega)
    show 0 ≤ x * opn xs.length b + _ ∧ x * opn xs.length b + _ < b * opn xs.length b + opn xs.length (b + 1)
    by_cases e : x = b
    · subst e
      rw [max_new] at hp ⊢
      omega
    · rw [max_small (by omega)] at hp ⊢
      have h3 : (x + 1) * opn xs.length b ≤ b * opn xs.length b := Int.mul_le_mul_of_nonneg_right (by omega) (by omega)
      rw [Int.add_mul, Int.one_mul] at h3
      omega

/-- The list of n numbers at a place, from where there are b blocks on. -/
def atFrom : Nat → Int → Int → List Int
  | 0, _, _ => []
  | n + 1, b, p => min (p / opn n b) b :: atFrom n (max b (min (p / opn n b) b + 1)) (p - min (p / opn n b) b * opn n b)

theorem atFrom_length : ∀ (n : Nat) (b p : Int), (atFrom n b p).length = n := by
  intro n
  induction n with
  | zero => intro b p; rfl
  | succ n ih => intro b p; simp only [atFrom, List.length_cons, ih]

/-- The number that stands first in the list at a place. -/
theorem at_head (n : Nat) (b p : Int) (hb : 0 ≤ b) (hp : 0 ≤ p) (hq : p < opn (n + 1) b) :
    0 ≤ min (p / opn n b) b ∧ min (p / opn n b) b ≤ b ∧ 0 ≤ p - min (p / opn n b) b * opn n b ∧ p - min (p / opn n b) b * opn n b < opn n (max b (min (p / opn n b) b + 1)) := by
  have ho := opn_pos n b hb
  have hd : 0 ≤ p / opn n b := Int.ediv_nonneg hp (by omega)
  have hm := Int.mul_ediv_add_emod p (opn n b)
  have hr := Int.emod_nonneg p (show opn n b ≠ 0 by omega)
  have hr2 := Int.emod_lt_of_pos p (show 0 < opn n b by omega)
  rw [Int.mul_comm] at hm
  have hq' : p < b * opn n b + opn n (b + 1) := hq
  by_cases h : p / opn n b < b
  · rw [Int.min_eq_left (by omega), max_small h]
    omega
  · rw [Int.min_eq_right (by omega), max_new]
    have h3 : b * opn n b ≤ p / opn n b * opn n b := Int.mul_le_mul_of_nonneg_right (by omega) (by omega)
    omega

theorem at_ok : ∀ (n : Nat) (b p : Int), 0 ≤ b → 0 ≤ p → p < opn n b → okFrom b (atFrom n b p) = true ∧ plcFrom b (atFrom n b p) = p := by
  intro n
  induction n with
  | zero => intro b p _ h0 h1; exact ⟨rfl, by have : p < 1 := h1; show (0 : Int) = p; omega⟩
  | succ n ih =>
    intro b p hb h0 h1
    obtain ⟨e1, e2, e3, e4⟩ := at_head n b p hb h0 h1
    have := ih (max b (min (p / opn n b) b + 1)) (p - min (p / opn n b) b * opn n b) (by omega) e3 e4
    simp only [atFrom]
    refine ⟨by rw [okFrom_step _ e1 e2]; exact this.1, ?_⟩
    simp only [plcFrom, atFrom_length]
    rw [this.2]
    omega

theorem at_plc : ∀ (xs : List Int) (b : Int), 0 ≤ b → okFrom b xs = true → atFrom xs.length b (plcFrom b xs) = xs := by
  intro xs
  induction xs with
  | nil => intro b _ _; rfl
  | cons x xs ih =>
    intro b hb h
    obtain ⟨h0, h1, h2⟩ := okFrom_head h
    have hp := plcFrom_bd xs (max b (x + 1)) (by omega) h2
    have ho := opn_pos xs.length b hb
    have hi := ih (max b (x + 1)) (by omega) h2
    have hx : min ((x * opn xs.length b + plcFrom (max b (x + 1)) xs) / opn xs.length b) b = x := by
      rw [Int.add_comm, Int.add_mul_ediv_right _ _ (by omega)]
      by_cases e : x = b
      · have : 0 ≤ plcFrom (max b (x + 1)) xs / opn xs.length b := Int.ediv_nonneg hp.1 (by omega)
        omega
      · have : plcFrom (max b (x + 1)) xs / opn xs.length b = 0 := Int.ediv_eq_zero_of_lt hp.1 (by rw [max_small (show x < b by omega)] at hp ⊢; exact hp.2)
        omega
    simp only [plcFrom, List.length_cons, atFrom]
    rw [hx, show x * opn xs.length b + plcFrom (max b (x + 1)) xs - x * opn xs.length b = plcFrom (max b (x + 1)) xs by omega, hi]

/-- Two lists at one place are the same. -/
theorem plc_inj {xs ys : List Int} {b : Int} (hb : 0 ≤ b) (hx : okFrom b xs = true) (hy : okFrom b ys = true) (hl : xs.length = ys.length) (h : plcFrom b xs = plcFrom b ys) : xs = ys := by
  rw [← at_plc xs b hb hx, ← at_plc ys b hb hy, hl, h]

theorem sizeFrom_nonneg : ∀ (xs : List Int) (b : Int), b ≤ sizeFrom b xs := by
  intro xs
  induction xs with
  | nil => intro b; exact Int.le_refl _
  | cons x xs ih => intro b; have := ih (max b (x + 1)); show b ≤ sizeFrom (max b (x + 1)) xs; omega

theorem sizeFrom_app : ∀ (u v : List Int) (b : Int), sizeFrom b (u ++ v) = sizeFrom (sizeFrom b u) v := by
  intro u
  induction u with
  | nil => intro v b; rfl
  | cons x u ih => intro v b; show sizeFrom (max b (x + 1)) (u ++ v) = _; rw [ih]; rfl

theorem okFrom_app : ∀ (u v : List Int) (b : Int), okFrom b (u ++ v) = true ↔ okFrom b u = true ∧ okFrom (sizeFrom b u) v = true := by
  intro u
  induction u with
  | nil => intro v b; simp [okFrom, sizeFrom]
  | cons x u ih =>
    intro v b
    by_cases h : 0 ≤ x ∧ x ≤ b
    · rw [List.cons_append, okFrom_step _ h.1 h.2, okFrom_step _ h.1 h.2, ih]
      rfl
    · rw [List.cons_append, okFrom_no (by omega), okFrom_no (by omega)]
      simp

/-- Behind the same beginning places differ as what follows does. -/
theorem plc_app : ∀ (u v v' : List Int) (b : Int), v.length = v'.length → plcFrom b (u ++ v') - plcFrom b (u ++ v) = plcFrom (sizeFrom b u) v' - plcFrom (sizeFrom b u) v := by
  intro u
  induction u with
  | nil => intro v v' b _; rfl
  | cons x u ih =>
    intro v v' b h
    have := ih v v' (max b (x + 1)) h
    simp only [List.cons_append, plcFrom, sizeFrom, List.length_append, h]
    omega

theorem plc_zeros : ∀ (m : Nat) (b : Int), plcFrom b (List.replicate m 0) = 0 := by
  intro m
  induction m with
  | zero => intro b; rfl
  | succ m ih => intro b; rw [List.replicate_succ, plcFrom, ih]; simp

theorem ok_zeros : ∀ (m : Nat) (b : Int), 0 ≤ b → okFrom b (List.replicate m 0) = true := by
  intro m
  induction m with
  | zero => intro b _; rfl
  | succ m ih => intro b hb; rw [List.replicate_succ, okFrom_step _ (by omega) hb]; exact ih _ (by omega)

theorem iota_succ (k : Int) (m : Nat) : iota k (m + 1) = k :: iota (k + 1) m := by
  apply List.ext_getElem
  · simp [iota]
  · intro j h1 h2
    cases j with
    | zero => simp [iota]
    | succ j => simp [iota]; omega

theorem plc_iota : ∀ (m : Nat) (b : Int), plcFrom b (iota b m) = opn m b - 1 := by
  intro m
  induction m with
  | zero => intro b; rfl
  | succ m ih =>
    intro b
    rw [iota_succ, plcFrom, max_new, ih, iota_length]
    show _ = b * opn m b + opn m (b + 1) - 1
    omega

theorem ok_iota : ∀ (m : Nat) (b : Int), 0 ≤ b → okFrom b (iota b m) = true := by
  intro m
  induction m with
  | zero => intro b _; rfl
  | succ m ih => intro b hb; rw [iota_succ, okFrom_new hb]; exact ih _ (by omega)

/-- The next one: a number that is no new one goes up, single things behind it become zeros. -/
theorem next_step (u : List Int) (x : Int) (m : Nat) (h0 : 0 ≤ x) (hx : x < sizeFrom 0 u) (hu : okFrom 0 u = true) :
    okFrom 0 (u ++ (x + 1) :: List.replicate m 0) = true ∧ plcFrom 0 (u ++ (x + 1) :: List.replicate m 0) = plcFrom 0 (u ++ x :: iota (sizeFrom 0 u) m) + 1 := by
  have hs := sizeFrom_nonneg u 0
  refine ⟨?_, ?_⟩
  · rw [okFrom_app]
    refine ⟨hu, ?_⟩
    rw [okFrom_step _ (by omega) (by omega)]
    exact ok_zeros _ _ (by omega)
  · have h := plc_app u (x :: iota (sizeFrom 0 u) m) ((x + 1) :: List.replicate m 0) 0 (by simp [iota_length])
    simp only [plcFrom, plc_zeros, List.length_replicate, iota_length] at h
    rw [max_small hx, plc_iota, Int.add_mul, Int.one_mul] at h
    omega

/-- The one ahead: a number that is not 0 goes down, zeros behind it become single things. -/
theorem before_step (u : List Int) (x : Int) (m : Nat) (h0 : 0 < x) (hx : x ≤ sizeFrom 0 u) (hu : okFrom 0 u = true) :
    okFrom 0 (u ++ (x - 1) :: iota (sizeFrom 0 u) m) = true ∧ plcFrom 0 (u ++ (x - 1) :: iota (sizeFrom 0 u) m) + 1 = plcFrom 0 (u ++ x :: List.replicate m 0) := by
  have hs := sizeFrom_nonneg u 0
  refine ⟨?_, ?_⟩
  · rw [okFrom_app]
    refine ⟨hu, ?_⟩
    rw [okFrom_step _ (by omega) (by omega), show x - 1 + 1 = x by omega, Int.max_eq_left hx]
    exact ok_iota _ _ (by omega)
  · have h := plc_app u ((x - 1) :: iota (sizeFrom 0 u) m) (x :: List.replicate m 0) 0 (by simp [iota_length])
    simp only [plcFrom, plc_zeros, List.length_replicate, iota_length] at h
    rw [show x - 1 + 1 = x by omega, Int.max_eq_left hx, plc_iota, Int.sub_mul, Int.one_mul] at h
    omega

/-- The place of a list, the list at a place. -/
def plc (xs : List Int) : Int := plcFrom 0 xs
def atL (n : Nat) (p : Int) : List Int := atFrom n 0 p

theorem atL_length (n : Nat) (p : Int) : (atL n p).length = n := atFrom_length _ _ _

theorem atL_plc {xs : List Int} (h : okFrom 0 xs = true) : atL xs.length (plc xs) = xs := at_plc xs 0 (by omega) h
theorem plc_atL (n : Nat) (p : Int) (h0 : 0 ≤ p) (h1 : p < opn n 0) : okFrom 0 (atL n p) = true ∧ plc (atL n p) = p := at_ok n 0 p (by omega) h0 h1
theorem plc_bd {xs : List Int} (h : okFrom 0 xs = true) : 0 ≤ plc xs ∧ plc xs < opn xs.length 0 := plcFrom_bd xs 0 (by omega) h

theorem atL_partIn (n : Nat) (p : Int) (hn : 1 ≤ n) (h8 : n ≤ 8) (h0 : 0 ≤ p) (h1 : p < opn n 0) : partIn (atL n p) = true := by
  have := (plc_atL n p h0 h1).1
  simp [partIn, atL_length, this, hn, h8]

theorem plc_last (n : Nat) : plc (iota 0 n) = opn n 0 - 1 := plc_iota n 0
theorem plc_first (n : Nat) : plc (List.replicate n 0) = 0 := plc_zeros n 0

/-- The last one is the only one at the last place; the first one the only one at the first place. -/
theorem is_last {xs : List Int} (h : okFrom 0 xs = true) : xs = iota 0 xs.length ↔ plc xs = opn xs.length 0 - 1 := by
  refine ⟨fun e => by rw [e, iota_length]; exact plc_last _, fun e => ?_⟩
  refine plc_inj (b := 0) (by omega) h (ok_iota _ _ (by omega)) (by rw [iota_length]) ?_
  show plc xs = plc (iota 0 xs.length)
  rw [plc_last, e]

theorem is_first {xs : List Int} (h : okFrom 0 xs = true) : xs = List.replicate xs.length 0 ↔ plc xs = 0 := by
  refine ⟨fun e => by rw [e]; exact plc_first _, fun e => ?_⟩
  refine plc_inj (b := 0) (by omega) h (ok_zeros _ _ (by omega)) (by simp) ?_
  show plc xs = plc (List.replicate xs.length 0)
  rw [plc_first, e]

/-- The list that was found is the one at the place behind. -/
theorem next_at {xs ys : List Int} (hl : ys.length = xs.length) (ho : okFrom 0 ys = true) (h : plc ys = plc xs + 1) : ys = atL xs.length (plc xs + 1) := by
  rw [← h, ← hl, atL_plc ho]

theorem before_at {xs ys : List Int} (hl : ys.length = xs.length) (ho : okFrom 0 ys = true) (h : plc ys + 1 = plc xs) : ys = atL xs.length (plc xs - 1) := by
  rw [show plc xs - 1 = plc ys by omega, ← hl, atL_plc ho]

theorem at_ok_any : ∀ (n : Nat) (b p : Int), 0 ≤ b → 0 ≤ p → okFrom b (atFrom n b p) = true := by
  intro n
  induction n with
  | zero => intro b p _ _; rfl
  | succ n ih =>
    intro b p hb hp
    have ho := opn_pos n b hb
    have hd : 0 ≤ p / opn n b := Int.ediv_nonneg hp (by omega)
    have h1 : 0 ≤ min (p / opn n b) b := by omega
    have h3 : min (p / opn n b) b * opn n b ≤ p / opn n b * opn n b := Int.mul_le_mul_of_nonneg_right (by omega) (by omega)
    have h4 := Int.ediv_mul_le p (show opn n b ≠ 0 by omega)
    simp only [atFrom]
    rw [okFrom_step _ h1 (by omega)]
    exact ih _ _ (by omega) (by omega)

theorem atL_partIn_any (n p : Nat) (hn : 1 ≤ n) (h8 : n ≤ 8) : partIn (atL n (p : Int)) = true := by
  have := at_ok_any n 0 (p : Int) (by omega) (by omega)
  simp only [partIn, atL_length, Bool.and_eq_true, decide_eq_true_eq]
  exact ⟨⟨hn, h8⟩, this⟩

theorem split_at (xs : List Int) (t : Nat) (h : t < xs.length) : xs = xs.take t ++ xs.getD t 0 :: xs.drop (t + 1) := by
  rw [← drop_cons xs t h, List.take_append_drop]

theorem take_snocI (xs : List Int) (t : Nat) (h : t < xs.length) : xs.take (t + 1) = xs.take t ++ [xs.getD t 0] := by
  rw [List.take_succ_eq_append_getElem h]
  simp [List.getD, h]

theorem okFrom_take {xs : List Int} {b : Int} (h : okFrom b xs = true) (t : Nat) : okFrom b (xs.take t) = true := by
  have := (okFrom_app (xs.take t) (xs.drop t) b).1 (by rw [List.take_append_drop]; exact h)
  exact this.1

theorem okFrom_at {xs : List Int} (h : okFrom 0 xs = true) (t : Nat) (ht : t < xs.length) : 0 ≤ xs.getD t 0 ∧ xs.getD t 0 ≤ sizeFrom 0 (xs.take t) := by
  have h1 : okFrom 0 (xs.take t ++ xs.getD t 0 :: xs.drop (t + 1)) = true := by rw [← split_at xs t ht]; exact h
  have := okFrom_head ((okFrom_app _ _ _).1 h1).2
  exact ⟨this.1, this.2.1⟩

theorem sizeFrom_snoc (u : List Int) (x b : Int) : sizeFrom b (u ++ [x]) = max (sizeFrom b u) (x + 1) := by
  rw [sizeFrom_app]; rfl

theorem size_le_len : ∀ (xs : List Int) (b : Int), 0 ≤ b → okFrom b xs = true → sizeFrom b xs ≤ b + xs.length := by
  intro xs
  induction xs with
  | nil => intro b _ _; show b ≤ _; simp
  | cons x xs ih =>
    intro b hb h
    obtain ⟨h0, h1, h2⟩ := okFrom_head h
    have := ih (max b (x + 1)) (by omega) h2
    show sizeFrom (max b (x + 1)) xs ≤ _
    simp only [List.length_cons]
    omega

/-- What the loop of the next one finds. -/
theorem next_found {xs : List Int} (h : okFrom 0 xs = true) (t : Nat) (ht : t < xs.length) (hd : xs.drop (t + 1) = iota (sizeFrom 0 (xs.take (t + 1))) (xs.length - (t + 1))) (hne : xs.getD t 0 ≠ sizeFrom 0 (xs.take t)) :
    okFrom 0 (xs.take t ++ (xs.getD t 0 + 1) :: List.replicate (xs.length - (t + 1)) 0) = true ∧ xs.take t ++ (xs.getD t 0 + 1) :: List.replicate (xs.length - (t + 1)) 0 = atL xs.length (plc xs + 1) ∧ plc xs + 1 < opn xs.length 0 := by
  have ha := okFrom_at h t ht
  have hs := next_step (xs.take t) (xs.getD t 0) (xs.length - (t + 1)) ha.1 (by omega) (okFrom_take h t)
  have he : xs.take t ++ xs.getD t 0 :: iota (sizeFrom 0 (xs.take t)) (xs.length - (t + 1)) = xs := by
    have hz : sizeFrom 0 (xs.take (t + 1)) = sizeFrom 0 (xs.take t) := by rw [take_snocI xs t ht, sizeFrom_snoc, max_small (by omega)]
    rw [← hz, ← hd, ← split_at xs t ht]
  rw [he] at hs
  have hl : (xs.take t ++ (xs.getD t 0 + 1) :: List.replicate (xs.length - (t + 1)) 0).length = xs.length := by simp; omega
  have hb := plc_bd hs.1
  have hp : plc (xs.take t ++ (xs.getD t 0 + 1) :: List.replicate (xs.length - (t + 1)) 0) = plc xs + 1 := hs.2
  refine ⟨hs.1, next_at hl hs.1 hs.2, ?_⟩
  rw [hl, hp] at hb
  exact hb.2

theorem next_more {xs : List Int} (t : Nat) (ht : t < xs.length) (hd : xs.drop (t + 1) = iota (sizeFrom 0 (xs.take (t + 1))) (xs.length - (t + 1))) (he : xs.getD t 0 = sizeFrom 0 (xs.take t)) :
    xs.drop t = iota (sizeFrom 0 (xs.take t)) (xs.length - t) := by
  rw [drop_cons xs t ht, hd, take_snocI xs t ht, sizeFrom_snoc, he, max_new, show xs.length - t = xs.length - (t + 1) + 1 by omega, iota_succ]

/-- What the loop of the one ahead finds. -/
theorem before_found {xs : List Int} (h : okFrom 0 xs = true) (t : Nat) (ht : t < xs.length) (hd : xs.drop (t + 1) = List.replicate (xs.length - (t + 1)) 0) (hne : xs.getD t 0 ≠ 0) :
    okFrom 0 (xs.take t ++ (xs.getD t 0 - 1) :: iota (sizeFrom 0 (xs.take t)) (xs.length - (t + 1))) = true ∧ xs.take t ++ (xs.getD t 0 - 1) :: iota (sizeFrom 0 (xs.take t)) (xs.length - (t + 1)) = atL xs.length (plc xs - 1) ∧ 0 ≤ plc xs - 1 := by
  have ha := okFrom_at h t ht
  have hs := before_step (xs.take t) (xs.getD t 0) (xs.length - (t + 1)) (by omega) ha.2 (okFrom_take h t)
  have he : xs.take t ++ xs.getD t 0 :: List.replicate (xs.length - (t + 1)) 0 = xs := by
    rw [← hd, ← split_at xs t ht]
  rw [he] at hs
  have hl : (xs.take t ++ (xs.getD t 0 - 1) :: iota (sizeFrom 0 (xs.take t)) (xs.length - (t + 1))).length = xs.length := by simp [iota_length]; omega
  have hb := plc_bd hs.1
  have hp : plc (xs.take t ++ (xs.getD t 0 - 1) :: iota (sizeFrom 0 (xs.take t)) (xs.length - (t + 1))) + 1 = plc xs := hs.2
  refine ⟨hs.1, before_at hl hs.1 hs.2, ?_⟩
  omega

theorem before_more {xs : List Int} (t : Nat) (ht : t < xs.length) (hd : xs.drop (t + 1) = List.replicate (xs.length - (t + 1)) 0) (he : xs.getD t 0 = 0) :
    xs.drop t = List.replicate (xs.length - t) 0 := by
  rw [drop_cons xs t ht, hd, he, show xs.length - t = xs.length - (t + 1) + 1 by omega, List.replicate_succ]

/-- Of two lists of one length the one at the greater place is greater at the first place where they differ. -/
theorem plc_less : ∀ (xs ys : List Int) (b : Int), 0 ≤ b → okFrom b xs = true → okFrom b ys = true → xs.length = ys.length → plcFrom b xs < plcFrom b ys →
    ∃ t, t < xs.length ∧ (∀ j, j < t → xs.getD j 0 = ys.getD j 0) ∧ xs.getD t 0 < ys.getD t 0 := by
  intro xs
  induction xs with
  | nil =>
    intro ys b _ _ _ hl h
    cases ys with
    | nil => exact absurd h (Int.lt_irrefl _)
    | cons y ys => cases hl
  | cons x xs ih =>
    intro ys b hb hx hy hl h
    cases ys with
    | nil => cases hl
    | cons y ys =>
      have hl' : xs.length = ys.length := by simpa using hl
      have hx := okFrom_head hx
      have hy := okFrom_head hy
      simp only [plcFrom] at h
      rcases Int.lt_trichotomy x y with c | c | c
      · exact ⟨0, by simp, fun j hj => by omega, c⟩
      · subst c
        rw [hl'] at h
        obtain ⟨t, h1, h2, h3⟩ := ih ys _ (by omega) hx.2.2 hy.2.2 hl' (by omega)
        refine ⟨t + 1, by simpa using h1, ?_, h3⟩
        intro j hj
        cases j with
        | zero => rfl
        | succ j => exact h2 j (by omega)
      · exfalso
        have b1 := plcFrom_bd ys _ (by omega) hy.2.2
        have b2 := plcFrom_bd xs _ (by omega) hx.2.2
        rw [max_small (by omega)] at b1
        rw [max_small (show y < b by omega), hl'] at h
        have b3 : (y + 1) * opn ys.length b ≤ x * opn ys.length b := Int.mul_le_mul_of_nonneg_right (by omega) (by have := opn_pos ys.length b hb; omega)
        rw [Int.add_mul, Int.one_mul] at b3
        omega

end Go.Proofs.Ytieldehghmikkaa
