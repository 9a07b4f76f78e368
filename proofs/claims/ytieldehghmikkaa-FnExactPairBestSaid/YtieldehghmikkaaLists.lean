/-
  The program's contracts: impl.ListPlace, ListAt, ListNext, ListBefore, ListOpen.
-/
import Derived.Test.YtieldehghmikkaaLine5
import Derived.Test.YtieldehghmikkaaMatHelp
namespace Go.Proofs.Ytieldehghmikkaa
set_option linter.unusedSimpArgs false
set_option linter.unusedVariables false
set_option linter.unnecessarySimpa false
open Go.RowKit

def listPlace (xs : List Int) : Int × Bool := if partIn xs then (plc xs, true) else (0, false)
def listAt (n p : Int) : List Int × Bool := if (1 ≤ n ∧ n ≤ 8) ∧ 0 ≤ p ∧ p < opn n.toNat 0 then (atL n.toNat p, true) else ([], false)
def listNext (xs : List Int) : List Int × Bool := if partIn xs = true ∧ plc xs + 1 < opn xs.length 0 then (atL xs.length (plc xs + 1), true) else ([], false)
def listBefore (xs : List Int) : List Int × Bool := if partIn xs = true ∧ 0 < plc xs then (atL xs.length (plc xs - 1), true) else ([], false)
def listOpen (n : Int) (xs : List Int) : Int × Bool := if partIn xs = true ∧ (xs.length : Int) ≤ n ∧ n ≤ 8 then (opn (n.toNat - xs.length) (pSize xs), true) else (0, false)

theorem listAt_len (n p : Int) : (listAt n p).1.length ≤ 2305843009213693952 := by
  unfold listAt
  split
  · simp only [atL_length]; omega
  · simp
theorem listNext_len (xs : List Int) (h : xs.length ≤ 1048576) : (listNext xs).1.length ≤ 2305843009213693952 := by
  unfold listNext
  split
  · simp only [atL_length]; omega
  · simp
theorem listBefore_len (xs : List Int) (h : xs.length ≤ 1048576) : (listBefore xs).1.length ≤ 2305843009213693952 := by
  unfold listBefore
  split
  · simp only [atL_length]; omega
  · simp

theorem rdv_len {w : World} {v : Value} {xs : List Int} (h : RdV w v xs) : ∃ ao cap, v = .slice ao xs.length cap ∧ xs.length ≤ 9223372036854775807 := by
  obtain ⟨ao, cap, h1, _, h3, h4⟩ := h
  unfold maxLen at h4
  exact ⟨ao, cap, h1, by omega⟩

theorem countFits_is (b : Bool) (n : Int) (w : World) (h : decide (1 ≤ n ∧ n ≤ 8) = b) : Calls Try.prog 72 #[.int .i64 n] w fun e w' => e = .returned (.bool b) ∧ w = w' := by
  subst h
  exact countFits_any n w

theorem lineList_f (xs : List Int) (w : World) (hp : partIn xs = true) : Calls Try.prog 76 #[.agg (rowC (ln xs))] w (FreshL w xs) :=
  lineList_any xs w (partIn_small hp) (partIn_len hp).2

end Go.Proofs.Ytieldehghmikkaa
