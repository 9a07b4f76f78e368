/-
  The contracts of (line).place and impl.lineAt. (Made by wip/gen/mkline5.py.)
-/
import Derived.Test.YtieldehghmikkaaLine4
namespace Go.Proofs.Ytieldehghmikkaa
set_option linter.unusedSimpArgs false
set_option linter.unusedVariables false
set_option linter.unnecessarySimpa false
open Go.RowKit

/-- One number of the place of a list. -/
theorem plc_drop {xs : List Int} (k : Nat) (hk : k < xs.length) (s : Int) : plcFrom s (xs.drop k) = xs.getD k 0 * opn (xs.length - (k + 1)) s + plcFrom (max s (xs.getD k 0 + 1)) (xs.drop (k + 1)) := by
  rw [drop_cons xs k hk, plcFrom, List.length_drop]

theorem size_succ {xs : List Int} (k : Nat) (hk : k < xs.length) : sizeFrom 0 (xs.take (k + 1)) = max (sizeFrom 0 (xs.take k)) (xs.getD k 0 + 1) := by
  rw [take_snocI xs k hk, sizeFrom_snoc]

theorem okFrom_drop {xs : List Int} (h : okFrom 0 xs = true) (k : Nat) : okFrom (sizeFrom 0 (xs.take k)) (xs.drop k) = true := by
  have := (okFrom_app (xs.take k) (xs.drop k) 0).1 (by rw [List.take_append_drop]; exact h)
  exact this.2

/-- The lists that lineAt has, one place after the other. -/
structure AtStage (n : Nat) (P : Int) (i : Nat) (pre : List Int) (q : Int) : Prop where
  le : i ≤ n
  len : pre.length = i
  ok : okFrom 0 pre = true
  q0 : 0 ≤ q
  q1 : q < opn (n - i) (sizeFrom 0 pre)
  eq : atL n P = pre ++ atFrom (n - i) (sizeFrom 0 pre) q

theorem atStage_start (n : Nat) (P : Int) (h0 : 0 ≤ P) (h1 : P < opn n 0) : AtStage n P 0 [] P := ⟨Nat.zero_le _, rfl, rfl, h0, h1, rfl⟩

theorem atStage_step {n i : Nat} {P q : Int} {pre : List Int} (h : AtStage n P i pre q) (hi : i < n) (x : Int) (hx : x = min (q / opn (n - (i + 1)) (sizeFrom 0 pre)) (sizeFrom 0 pre)) :
    AtStage n P (i + 1) (pre ++ [x]) (q - x * opn (n - (i + 1)) (sizeFrom 0 pre)) ∧ 0 ≤ x ∧ x ≤ sizeFrom 0 pre := by
  have hn : n - i = (n - (i + 1)) + 1 := by omega
  have hs := sizeFrom_nonneg pre 0
  have hq1 := h.q1
  have heq := h.eq
  rw [hn] at hq1 heq
  obtain ⟨e1, e2, e3, e4⟩ := at_head (n - (i + 1)) (sizeFrom 0 pre) q hs h.q0 hq1
  rw [atFrom] at heq
  rw [← hx] at e1 e2 e3 e4 heq
  refine ⟨⟨by omega, by rw [List.length_append, h.len]; rfl, ?_, e3, ?_, ?_⟩, e1, e2⟩
  · rw [okFrom_app]
    refine ⟨h.ok, ?_⟩
    rw [okFrom_step _ e1 e2]
    rfl
  · rw [sizeFrom_snoc]; exact e4
  · rw [sizeFrom_snoc, heq]; simp

theorem atStage_end {n : Nat} {P q : Int} {pre : List Int} (h : AtStage n P n pre q) : atL n P = pre := by
  have := h.eq
  rw [Nat.sub_self, atFrom, List.append_nil] at this
  exact this

theorem pre_set (pre : List Int) (n i : Nat) (h : pre.length = i) (hi : i < n) (x : Int) : (pre ++ List.replicate (n - i) 0).set i x = (pre ++ [x]) ++ List.replicate (n - (i + 1)) 0 := by
  rw [List.set_append_right _ _ (by omega), h, Nat.sub_self, show n - i = (n - (i + 1)) + 1 by omega, List.replicate_succ, List.set_cons_zero]
  simp

theorem pre_take (pre : List Int) (n i : Nat) (h : pre.length = i) : (pre ++ List.replicate (n - i) 0).take i = pre := by
  rw [List.take_append_of_le_length (by omega), List.take_of_length_le (by omega)]

theorem pre_small {pre : List Int} {n : Nat} (h : okFrom 0 pre = true) (hl : pre.length ≤ 8) (m : Nat) : Small (pre ++ List.replicate m 0) := fun j hj => by
  simp only [List.getD, List.getElem?_append]
  by_cases h1 : j < pre.length
  · rw [if_pos h1]
    have := okFrom_small pre 0 (by omega) h j h1
    simp only [List.getD] at this
    omega
  · rw [if_neg h1, List.getElem?_replicate]
    split <;> simp

end Go.Proofs.Ytieldehghmikkaa
