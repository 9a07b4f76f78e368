/-
  A partition's numbers grow by one.
-/
import Derived.Test.YtieldehghmikkaaPartIn
namespace Go.Proofs.Ytieldehghmikkaa

theorem partIn_ok {xs : List Int} (h : partIn xs = true) : okFrom 0 xs = true := by
  simp only [partIn, Bool.and_eq_true] at h
  exact h.2

end Go.Proofs.Ytieldehghmikkaa
