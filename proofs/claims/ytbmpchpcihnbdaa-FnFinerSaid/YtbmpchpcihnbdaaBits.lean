/-
  The contracts of the methods of impl.block, and of bits.OnesCount, for sets of at most eight things.
-/
import Derived.Test.YtbmpchpcihnbdaaTurned
namespace Go.Proofs.Ytbmpchpcihnbdaa
set_option linter.unusedSimpArgs false
set_option linter.unusedVariables false
set_option linter.unnecessarySimpa false
open Go.RowKit

theorem and_fact : ∀ b, b < 256 → ∀ t, t < 8 → (bits BinOp.and IntKind.u64 ((b : Nat) : Int) (IntKind.u64.wrap (2 ^ (t : Nat))) != 0) = b.testBit t := by decide +kernel
theorem or_fact : ∀ b, b < 256 → ∀ t, t < 8 → bits BinOp.or IntKind.u64 ((b : Nat) : Int) (IntKind.u64.wrap (2 ^ (t : Nat))) = ((b ||| 2 ^ t : Nat) : Int) := by decide +kernel
theorem or_lt : ∀ b, b < 256 → ∀ t, t < 8 → (b ||| 2 ^ t) < 256 := by decide +kernel

def cnt (m : Nat) : Nat := ((List.range 8).filter fun t => m.testBit t).length
theorem cnt_or : ∀ b, b < 256 → ∀ t, t < 8 → cnt (b ||| 2 ^ t) = cnt b + if b.testBit t then 0 else 1 := by decide +kernel
theorem cnt_full : ∀ n, n < 9 → ∀ m, m < 2 ^ n → (cnt m = n ↔ m = 2 ^ n - 1) := by decide +kernel

theorem with_any (b t : Nat) (w : World) (hb : b < 256) (ht : t < 8) : Calls Try.prog 75 #[.int .u64 b, .int .i64 t] w fun e w' => e = .returned (.int .u64 ((b ||| 2 ^ t : Nat) : Int)) ∧ w = w' := by
  have h := Lib.hid (or_fact b hb t ht)
  go_enter Try.func75, Try.ntmps75
  go_wp2
  go_ret
  exact ⟨ret_int h.out, rfl⟩

theorem ones64_any (b : Nat) (w : World) (hb : b < 256) : Calls Try.prog 113 #[.int .u64 b] w fun e w' => e = .returned (.int .i64 (cnt b)) ∧ w = w' := by
  go_enter Try.func113, Try.ntmps113
  go_wp2
  go_ret
  refine ⟨ret_int ?_, rfl⟩
  revert hb
  revert b
  decide +kernel

theorem onesCount_any (b : Nat) (w : World) (hb : b < 256) : Calls Try.prog 102 #[.int .u64 b] w fun e w' => e = .returned (.int .i64 (cnt b)) ∧ w = w' := by
  go_enter Try.func102, Try.ntmps102
  go_wp2_with fail
  refine (ones64_any b _ hb).mono ?_
  rintro e w' ⟨rfl, rfl⟩
  go_wp2
  go_ret
  exact ⟨rfl, rfl⟩

theorem size_any (b : Nat) (w : World) (hb : b < 256) : Calls Try.prog 76 #[.int .u64 b] w fun e w' => e = .returned (.int .i64 (cnt b)) ∧ w = w' := by
  go_enter Try.func76, Try.ntmps76
  go_wp2_with fail
  refine (onesCount_any b _ hb).mono ?_
  rintro e w' ⟨rfl, rfl⟩
  go_wp2
  go_ret
  exact ⟨rfl, rfl⟩

/-- Names that are all from 0 on and below n, none met before (s: those met). -/
def nameFrom (n : Nat) : Nat → List Int → Bool
  | _, [] => true
  | s, x :: xs => decide (0 ≤ x ∧ x < n) && !s.testBit x.toNat && nameFrom n (s ||| 2 ^ x.toNat) xs

def maskFrom : Nat → List Int → Nat
  | s, [] => s
  | s, x :: xs => maskFrom (s ||| 2 ^ x.toNat) xs

def inRange (n : Nat) (xs : List Int) : Prop := ∀ j, j < xs.length → 0 ≤ xs.getD j 0 ∧ xs.getD j 0 < n

theorem inRange_cons {n : Nat} {x : Int} {xs : List Int} (h : inRange n (x :: xs)) : (0 ≤ x ∧ x < n) ∧ inRange n xs :=
  ⟨by have := h 0 (by simp); simpa using this, fun j hj => by have := h (j + 1) (by simpa using hj); simpa using this⟩

theorem nameFrom_range (n : Nat) : ∀ (xs : List Int) (s : Nat), nameFrom n s xs = true → inRange n xs := by
  intro xs
  induction xs with
  | nil => intro s _ j hj; simp at hj
  | cons x xs ih =>
    intro s h j hj
    simp only [nameFrom, Bool.and_eq_true, decide_eq_true_eq] at h
    cases j with
    | zero => simpa using h.1.1
    | succ j => have := ih _ h.2 j (by simpa using hj); simpa using this

theorem or_lt_pow : ∀ n, n < 9 → ∀ s, s < 2 ^ n → ∀ t, t < n → (s ||| 2 ^ t) < 2 ^ n := by decide +kernel

theorem mask_cnt (n : Nat) (hn : n ≤ 8) : ∀ (xs : List Int) (s : Nat), s < 2 ^ n → inRange n xs → maskFrom s xs < 2 ^ n ∧ cnt (maskFrom s xs) ≤ cnt s + xs.length ∧ (cnt (maskFrom s xs) = cnt s + xs.length ↔ nameFrom n s xs = true) := by
  intro xs
  induction xs with
  | nil => intro s hs _; exact ⟨hs, Nat.le_refl _, by simp [maskFrom, nameFrom]⟩
  | cons x xs ih =>
    intro s hs hr
    obtain ⟨hx, hr'⟩ := inRange_cons hr
    have h256 : 2 ^ n ≤ 256 := by
      have : ∀ n, n < 9 → 2 ^ n ≤ 256 := by decide
      exact this n (by omega)
    have hc := cnt_or s (by omega) x.toNat (by omega)
    have ⟨i1, i2, i3⟩ := ih (s ||| 2 ^ x.toNat) (or_lt_pow n (by omega) s hs x.toNat (by omega)) hr'
    refine ⟨i1, ?_, ?_⟩
    · simp only [maskFrom, List.length_cons]
      split at hc <;> omega
    · simp only [maskFrom, List.length_cons, nameFrom, Bool.and_eq_true, decide_eq_true_eq, Bool.not_eq_true']
      rw [← i3]
      cases hb : s.testBit x.toNat
      · rw [hb] at hc
        simp at hc
        constructor
        · intro h; exact ⟨⟨hx, rfl⟩, by omega⟩
        · intro h; have := h.2; omega
      · rw [hb] at hc
        simp at hc
        constructor
        · intro h; omega
        · intro h; simp at h

/-- n names in the range are all different just if the set of them is all. -/
theorem names_full (n : Nat) (hn : n ≤ 8) (xs : List Int) (hl : xs.length = n) (hr : inRange n xs) : nameFrom n 0 xs = true ↔ maskFrom 0 xs = 2 ^ n - 1 := by
  obtain ⟨h1, h2, h3⟩ := mask_cnt n hn xs 0 (Nat.pos_of_ne_zero (by simp)) hr
  rw [← h3, ← cnt_full n (by omega) _ h1, hl]
  have : cnt 0 = 0 := by decide
  omega

def namesOk (n : Nat) (ps : List Int) : Bool := decide (ps.length = n) && nameFrom n 0 ps

end Go.Proofs.Ytbmpchpcihnbdaa
