/-
  The contracts of slices.Max, impl.blockCount, spec.l1Size, PartSize, PartTogether (impl and spec).
-/
import Derived.Test.YtdcfecbicpipoaaDoorPartIn
import Derived.BigQuiet
import Derived.Deep.QuietTactic
namespace Go.Proofs.YtdcfecbicpipoaaDoor
set_option linter.unusedSimpArgs false
set_option linter.unusedVariables false
set_option linter.unnecessarySimpa false
open Go.RowKit

def sizeFrom : Int → List Int → Int
  | n, [] => n
  | n, x :: xs => sizeFrom (max n (x + 1)) xs

/-- Each number is from 0 to 7. -/
def Small (xs : List Int) : Prop := ∀ j, j < xs.length → 0 ≤ xs.getD j 0 ∧ xs.getD j 0 ≤ 7

theorem okFrom_small : ∀ (xs : List Int) (b : Int), 0 ≤ b → okFrom b xs = true → ∀ j, j < xs.length → 0 ≤ xs.getD j 0 ∧ xs.getD j 0 ≤ b + j := by
  intro xs
  induction xs with
  | nil => intro b _ _ j hj; simp at hj
  | cons x xs ih =>
    intro b hb h j hj
    simp only [okFrom, Bool.and_eq_true, decide_eq_true_eq] at h
    obtain ⟨⟨h0, h1⟩, h2⟩ := h
    cases j with
    | zero => simp; omega
    | succ j =>
      have := ih (if x = b then b + 1 else b) (by split <;> omega) h2 j (by simpa using hj)
      simp only [List.getD_cons_succ]
      refine ⟨this.1, ?_⟩
      have h3 := this.2
      split at h3 <;> omega

theorem partIn_len {xs : List Int} (h : partIn xs = true) : 1 ≤ xs.length ∧ xs.length ≤ 8 := by
  simp only [partIn, Bool.and_eq_true, decide_eq_true_eq] at h
  omega

theorem partIn_small {xs : List Int} (h : partIn xs = true) : Small xs := by
  have hl := partIn_len h
  simp only [partIn, Bool.and_eq_true, decide_eq_true_eq] at h
  intro j hj
  have := okFrom_small xs 0 (by omega) h.2 j hj
  omega

theorem sizeFrom_bd : ∀ (xs : List Int) (n : Int), Small xs → 0 ≤ n → n ≤ 8 → n ≤ sizeFrom n xs ∧ sizeFrom n xs ≤ 8 := by
  intro xs
  induction xs with
  | nil => intro n _ h0 h8; simp only [sizeFrom]; omega
  | cons x xs ih =>
    intro n hs h0 h8
    have hx := hs 0 (by simp)
    simp at hx
    have := ih (max n (x + 1)) (fun j hj => by have := hs (j + 1) (by simpa using hj); simpa using this) (by omega) (by omega)
    simp only [sizeFrom]
    omega

def pSize (xs : List Int) : Int := sizeFrom 0 xs

theorem pSize_bd {xs : List Int} (h : Small xs) : 0 ≤ pSize xs ∧ pSize xs ≤ 8 := sizeFrom_bd xs 0 h (by omega) (by omega)

theorem pSize_pos {xs : List Int} (h : Small xs) (hl : 1 ≤ xs.length) : 1 ≤ pSize xs := by
  cases xs with
  | nil => simp at hl
  | cons x xs =>
    have hx := h 0 (by simp)
    simp at hx
    have := sizeFrom_bd xs (max 0 (x + 1)) (fun j hj => by have := h (j + 1) (by simpa using hj); simpa using this) (by omega) (by omega)
    show 1 ≤ sizeFrom (max 0 (x + 1)) xs
    omega

def partSize (xs : List Int) : Int × Bool := if partIn xs then (pSize xs, true) else (0, false)

end Go.Proofs.YtdcfecbicpipoaaDoor
